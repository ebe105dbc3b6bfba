/-
  Part of a proof (see the last text).
-/
import Derived.Test.YtibhgngboljhfaaGreatDoorZp28
set_option linter.unusedVariables false
set_option linter.unusedSimpArgs false
set_option maxRecDepth 100000
namespace Go.Proofs.YtibhgngboljhfaaGreatDoor
section
open Go.RowKit Go.Lib Go.Proofs.Tryz
theorem nodup_at {l:List PuK} (h:l.Nodup) {i j:Nat} (hi:i<l.length) (hj:j<l.length) (e:l[i]=l[j]):i=j:=by
 rcases Nat.lt_trichotomy i j with hij | hij | hij
 ·exact absurd e ((List.pairwise_iff_getElem.1 h) i j hi hj hij)
 ·exact hij
 ·exact absurd e.symm ((List.pairwise_iff_getElem.1 h) j i hj hi hij)
structure GrpOk (m:List Bl) (ps:List Pu):Prop where
 nodup:(ps.map Pu.key).Nodup
 bs:∀ p∈ps,p.bs=m.filter (fun x=>decide (x.pur=p.key))
 all:∀ x∈m,x.pur∈ps.map Pu.key
 ne:∀ p∈ps,p.bs≠[]
theorem GrpOk.add {m:List Bl} {ps:List Pu} (h:GrpOk m ps) (x:Bl):GrpOk (m++[x]) (QgL ps x):=by
 by_cases hx:x.pur∈ps.map Pu.key
 ·obtain ⟨p,hp,e⟩:=List.mem_map.1 hx;obtain ⟨j,hj,rfl⟩:=List.getElem_of_mem hp;rw [Qir x ps j hj h.nodup e];have hk:(ps.set j ⟨(ps[j]).key,(ps[j]).bs++[x]⟩).map Pu.key=ps.map Pu.key:=by
   rw [List.map_set];have e1:(ps[j]).key=(ps.map Pu.key)[j]'(by simpa using hj):=by simp
   rw [e1,List.set_getElem_self]
  refine ⟨by rw [hk];exact h.nodup,fun q hq=>?_,fun y hy=>?_,fun q hq=>?_⟩
  ·obtain ⟨i,hi,rfl⟩:=List.getElem_of_mem hq;have hi':i<ps.length:=by simpa using hi
   rw [List.filter_append];by_cases ei:j=i
   ·subst ei;simp only [List.getElem_set_self];rw [h.bs _ (List.getElem_mem hj)];congr 1;simp [e]
   ·simp only [List.getElem_set_ne ei];rw [h.bs _ (List.getElem_mem hi')];have hne:¬ x.pur=(ps[i]).key:=fun e2=>by
     rw [← e] at e2;exact ei (nodup_at h.nodup (i:=j) (j:=i) (by simpa using hj) (by simpa using hi') (by simpa using e2))
    simp [hne]
  ·rw [hk];rcases List.mem_append.1 hy with hy | hy
   ·exact h.all y hy
   ·rw [List.mem_singleton.1 hy];exact hx
  ·obtain ⟨i,hi,rfl⟩:=List.getElem_of_mem hq;have hi':i<ps.length:=by simpa using hi
   by_cases ei:j=i
   ·subst ei;simp only [List.getElem_set_self];simp
   ·simp only [List.getElem_set_ne ei];exact h.ne _ (List.getElem_mem hi')
 ·rw [Qij x ps hx];refine ⟨?_,fun q hq=>?_,fun y hy=>?_,fun q hq=>?_⟩
  ·rw [List.map_append,List.nodup_append];refine ⟨h.nodup,by simp,fun a ha b hb e=>?_⟩
   simp only [List.map_cons,List.map_nil,List.mem_singleton] at hb;exact hx (by rw [← hb,← e];exact ha)
  ·rw [List.filter_append];rcases List.mem_append.1 hq with hq | hq
   ·have hne:¬ x.pur=q.key:=fun e=>hx (by rw [e];exact List.mem_map.2 ⟨q,hq,rfl⟩)
    rw [← h.bs q hq];simp [hne]
   ·rw [List.mem_singleton.1 hq];have e0:m.filter (fun y=>decide (y.pur=x.pur))=[]:=by
     rw [List.filter_eq_nil_iff];intro y hy hd;exact hx (by rw [← of_decide_eq_true hd];exact h.all y hy)
    simp [e0]
  ·rw [List.map_append];rcases List.mem_append.1 hy with hy | hy
   ·exact List.mem_append_left _ (h.all y hy)
   ·rw [List.mem_singleton.1 hy];exact List.mem_append_right _ (by simp)
  ·rcases List.mem_append.1 hq with hq | hq
   ·exact h.ne q hq
   ·rw [List.mem_singleton.1 hq];simp
theorem grp_fold:∀ (r m:List Bl) (ps:List Pu),GrpOk m ps→GrpOk (m++r) (r.foldl QgL ps)
 | [],m,ps,h=>by simpa using h
 | x :: r,m,ps,h=>by
  have:=grp_fold r (m++[x]) (QgL ps x) (h.add x)
  simpa using this
theorem Qie (c:List Ac) (l:List Bl):GrpOk (l.filter (Qbc c)) (erU c l):=by
 have h0:GrpOk [] []:=⟨List.nodup_nil,by simp,by simp,by simp⟩
 have:=grp_fold (l.filter (Qbc c)) [] [] h0
 simpa [erU] using this
def QbX (c:List Ac) (l:List Bl) (k:PuK):List Bl:=(l.filter (Qbc c)).filter fun x=>decide (x.pur=k)
theorem bsOf_mem {c:List Ac} {l:List Bl} {k:PuK} {x:Bl} (h:x∈QbX c l k):x∈l∧Qbc c x=true∧x.pur=k:=by
 unfold QbX at h;rw [List.mem_filter,List.mem_filter] at h;exact ⟨h.1.1,h.1.2,of_decide_eq_true h.2⟩
def Qa6 (c:List Ac) (l:List Bl):List PuK:=(erU c l).map Pu.key
theorem pusOf_len (c:List Ac) (l:List Bl):(Qa6 c l).length≤l.length:=by
 have h1:∀ (r:List Bl) (ps:List Pu),(r.foldl QgL ps).length≤ps.length+r.length:=by
  intro r
  induction r with
  | nil=>intro ps;simp
  | cons x r ih=>
   intro ps;have h2:=ih (QgL ps x);have h3:(QgL ps x).length≤ps.length+1:=by
    clear h2 ih
    induction ps with
    | nil=>simp [QgL]
    | cons p ps ih=>
     rw [QgL]
     split
     ·simp
     ·simp only [List.length_cons];omega
   simp only [List.foldl_cons,List.length_cons];omega
 have h2:=h1 (l.filter (Qbc c)) [];have h3:=List.length_filter_le (Qbc c) l;unfold Qa6 erU;rw [List.length_map];simp only [List.length_nil] at h2;omega
theorem rises_uniq:∀ {a b:List PuK},a.Perm b→QeG a→QeG b→a=b:=fun {a b} hp ha hb=>
 List.Perm.eq_of_pairwise (le:=fun x y=>cmpU x y<0) (fun x y _ _ h1 h2=>absurd (QcA h1 h2) (QgU x)) ha hb hp
def putU (x:PuK):List PuK→List PuK
 | []=>[x]
 | y :: R=>if cmpU x y<0 then x :: y :: R else y :: putU x R
def QcH (L:List PuK):List PuK:=L.foldr putU []
theorem Qh5 (x:PuK):∀ R,(putU x R).Perm (x :: R)
 | []=>.refl _
 | y :: R=>by
  rw [putU]
  split
  ·exact .refl _
  ·exact ((Qh5 x R).cons y).trans (.swap ..)
theorem Qfa:∀ L,(QcH L).Perm L
 | []=>.refl _
 | x :: L=>(Qh5 x _).trans ((Qfa L).cons x)
theorem QiW (x:PuK):∀ R,QeG R→x ∉ R→QeG (putU x R)
 | [],_,_=>List.pairwise_singleton _ _
 | y :: R,h,hx=>by
  obtain ⟨h1,h2⟩:=List.pairwise_cons.1 h;have hxy:x≠y:=fun e=>hx (by rw [e];exact List.mem_cons_self ..)
  rw [putU];by_cases hlt:cmpU x y<0
  ·rw [if_pos hlt];refine List.pairwise_cons.2 ⟨fun z hz=>?_,h⟩
   rcases List.mem_cons.1 hz with rfl | hz
   ·exact hlt
   ·exact QcA hlt (h1 z hz)
  ·rw [if_neg hlt];refine List.pairwise_cons.2 ⟨fun z hz=>?_,QiW x R h2 (fun hm=>hx (List.mem_cons_of_mem _ hm))⟩
   rcases List.mem_cons.1 ((Qh5 x R).mem_iff.1 hz) with rfl | hz
   ·exact Qdh hlt hxy
   ·exact h1 z hz
theorem Qi2:∀ L:List PuK,L.Nodup→QeG (QcH L)
 | [],_=>.nil
 | x :: L,h=>by
  obtain ⟨h1,h2⟩:=List.nodup_cons.1 h;exact QiW x _ (Qi2 L h2) (fun hm=>h1 ((Qfa L).mem_iff.1 hm))
theorem srtU_of {L R:List PuK} (h1:R.Perm L) (h2:QeG R):QcH L=R:=
 rises_uniq ((Qfa L).trans h1.symm) (Qi2 L (h1.nodup_iff.1 (List.Pairwise.imp (fun {a b} h e=>by subst e;exact QgU _ h) h2))) h2
def Qc1 (c:List Ac) (R:List Bl):Int:=
 if erE c R≠0 then erE c R else Qac (fun i=>cgE (QbX c R ((QcH (Qa6 c R)).getD i pu0))) (QcH (Qa6 c R)).length
def clE (c:List Ac) (kept:ByteArray) (pe:Int) (R:List Bl) (k:PuK):Ep:=⟨ByteArray.empty,k.1,pe,cgL kept (QbX c R k)⟩
def QeM (c:List Ac) (kept:ByteArray) (pe:Int) (R:List Bl):List Ep:=(QcH (Qa6 c R)).map (clE c kept pe R)
theorem erE_ok {c:List Ac} {l:List Bl} (h:erE c l=0) {x:Bl} (hx:x∈l) (he:Qbc c x=true):Qas x.amt=true:=by
 unfold erE at h;split at h
 ·exact absurd h (by decide)
 ·rename_i hn
  cases hA:Qas x.amt with
  | true=>rfl
  | false=>exact absurd (List.any_eq_true.2 ⟨x,hx,by rw [he,hA];rfl⟩) hn
section
variable {W:World} {n mb:Nat} {ps:List Pu} {vs:Nat→Value}
theorem run_ulook (h:PuMp W n mb ps vs) {i:Nat} (hi:i<ps.length):(Instr.lookup 187 (.map (some mb)) (puV (ps[i]).key) false).run prog W=.ok (vs i) W:=by
 obtain ⟨kl,hkl⟩:=QgY (h.keys _ (List.getElem_mem hi));have hke:∀ e∈(QaI ps vs),∃ l,keyOf prog 193 e.key=some l:=fun e he=>by
  obtain ⟨i,hi,rfl⟩:=Qeg he;exact QgY (h.keys _ (List.getElem_mem hi))
 rcases Qjf.find W hkl (QaI ps vs) hke with ⟨h1,h2⟩ | ⟨j,e0,h1,h2,h3⟩
 ·exact absurd rfl (h2 _ (List.mem_of_getElem? (Qa9 ps vs i hi)))
 ·have hj:j<ps.length:=by have:=(List.getElem?_eq_some_iff.1 h2).1;rw [QaD] at this;exact this
  have he0:e0=⟨puV (ps[j]).key,vs j,j⟩:=by rw [Qa9 ps vs j hj] at h2;exact (Option.some.inj h2).symm
  have hkj:(ps[j]).key=(ps[i]).key:=puV_inj (by rw [he0] at h3;exact h3)
  have hij:j=i:=nodup_at h.nodup (i:=j) (j:=i) (by simpa using hj) (by simpa using hi) (by simpa using hkj)
  subst hij;rw [he0] at h1;simp [Instr.lookup,run_underlying Qcm,MapKept.run_getObj_map h.map,Qjf.check W _ hkl,h1,Result.andThen]
end
end
section
open Go.RowKit Go.Shelf Go.Proofs.Tryz
attribute [local go_sem] Oper.semAt_some
theorem purse_info:(prog.info? 193).map (fun i=>(i.zero,i.size,i.bytes))=some (some (.agg #[.int .i64 0,.string ByteArray.empty]),2,24):=by kernel_rfl
theorem pu_news (w:World) (k:PuK):∀ j u,([.int .i64 k.1,.string k.2]:List Value)[j]? = some u→(w.alloc (.cells #[.int .i64 k.1,.string k.2] 193)).cell? ((⟨w.heap.size,0,none⟩:Addr).add j)=some u:=fun j u h=>by
 have hn:=World.alloc_heap_new w (.cells #[.int .i64 k.1,.string k.2] 193);generalize w.alloc (.cells #[.int .i64 k.1,.string k.2] 193)=V at *
 rcases j with _ | _ | j
 ·simp at h;subst h;simp [Addr.add,World.cell?,hn]
 ·simp at h;subst h;simp [Addr.add,World.cell?,hn]
 ·simp at h
set_option maxHeartbeats 8000000 in
theorem appendSeqU (Bn bm:Nat) (ps:List Pu) (vs:Nat→Value) (w:World) (hlt:Bn<w.heap.size) (hBn:w.cell? ⟨Bn,0,none⟩=some (.map (some bm))) (hm:UMap w bm ps vs) (hl:ps.length≤1000) :
  Calls prog 195 #[.slice none 0 0,.func (.func 167) #[] #[.pointer (some ⟨Bn,0,none⟩)]] w fun e w'=>∃ v L,e=.returned v∧L.Perm (ps.map Pu.key)∧Qfv w' w.heap.size v L∧Below w.heap.size w w':=by
 obtain ⟨i0,hi,hz0,hz1,hz2⟩:=info_parts purse_info;have q0:=Boxed.new w 190 (.slice none 0 0);have hB0:Below w.heap.size w (w.alloc (.cells #[.slice none 0 0] 190)):=(Below.refl _ w).alloc (Nat.le_refl _) _;have c1:(w.alloc (.cells #[.slice none 0 0] 190)).cell? ⟨Bn,0,none⟩=some (.map (some bm)):=(hB0.cell (p:=⟨Bn,0,none⟩) hlt).trans hBn;have c2:UMap (w.alloc (.cells #[.slice none 0 0] 190)) bm ps vs:=(hB0.block bm (Array.getElem?_eq_some_iff.1 hm).1).trans hm
 have hsz:(w.alloc (.cells #[.slice none 0 0] 190)).heap.size=w.heap.size+1:=by simp
 have r0:World.ownsRow (w.alloc (.cells #[.slice none 0 0] 190)) w.heap.size 193 2 (.slice none 0 0) 0 []:=World.ownsRow_nil _ _ _ _;clear hBn hm;refine (callsIn_wide (n:=9)).1 ?_;refine callsIn_of_wp_marks func195 rfl trivial ?_ rfl;simp only [ntmps195,List.size_toArray,List.length_cons,List.length_nil,Nat.reduceAdd,Nat.reduceSub,Array.replicate_succ,Array.replicate_zero,List.push_toArray,List.append_toArray,List.nil_append,List.cons_append]
 gi_wp2
 generalize (w.alloc (.cells #[.slice none 0 0] 190))=W0 at *
 have hIO:OwnFrom W0.heap.size (fun (pre:List PuK) W=>(∃ v,Boxed W w.heap.size 190 v∧W.ownsRow w.heap.size 193 2 v pre.length (Qer pre)∧True)∧Below w.heap.size w W):=
  OwnFrom.and (Own.from (holdsRow_own w.heap.size w.heap.size 190 193 2 (fun pre:List PuK=>pre.length) Qer (fun _ _=>True)) _) (ownFrom_below (Nat.le_refl _) (by omega))
 refine wpIn_rangeFunc_ownH (α:=PuK) rfl (by omega) (gf:=167) (lb:=#[.pointer (some ⟨Bn,0,none⟩)]) rfl trivial (enters_of func167 (by kernel_rfl) rfl)
  (keysU_stops 8 (by omega) Bn bm ps vs W0 (by omega) c1 c2) walksK_t walksK_b (Below.refl _ _) (fun _=>rfl)
  (fun pre W=>(∃ v,Boxed W w.heap.size 190 v∧W.ownsRow w.heap.size 193 2 v pre.length (Qer pre)∧True)∧Below w.heap.size w W)
  (fun _ _ _=>False)
  hIO
  (fun _ _ _ _ _ hs _ _=>hs)
  ⟨⟨_,q0,r0,trivial⟩,hB0⟩
  (fun x a' W=>∃ b,a'={ tmps:=#[.slice none 0 0,.func (.func 167) #[] #[.pointer (some ⟨Bn,0,none⟩)],.pointer (some ⟨w.heap.size,0,none⟩),undef,.slice none 0 0,.pointer (some ⟨b,0,none⟩),.func (.func 167) #[] #[.pointer (some ⟨Bn,0,none⟩)],puV x,undef,undef,undef,undef,undef],defers:=[] }∧W.heap[b]? = some (.cells #[.int .i64 x.1,.string x.2] 193 (0,0)))
  (fun x a' s X Y row hs hg hr=>by
   obtain ⟨b,e,hb⟩:=hs;refine ⟨b,e,(hg.block b (Array.getElem?_eq_some_iff.1 hb).1 fun e2=>?_).trans hb⟩
   obtain ⟨_,o,ho,hc⟩:=hr b e2.symm;rw [hb] at ho;cases ho;cases hc)
  ?assign ?body ?done ?stop
 case assign=>
  intro l pre x W K hi hK;obtain ⟨x0,x1⟩:=x;simp only [puV];obtain ⟨V,hV⟩:∃ V,W.alloc (.cells #[.int .i64 x0,.string x1] 193)=V:=⟨_,rfl⟩;have HK:Hid (∀ a',a'={ tmps:=#[.slice none 0 0,.func (.func 167) #[] #[.pointer (some ⟨Bn,0,none⟩)],.pointer (some ⟨w.heap.size,0,none⟩),undef,.slice none 0 0,.pointer (some ⟨W.heap.size,0,none⟩),.func (.func 167) #[] #[.pointer (some ⟨Bn,0,none⟩)],.agg #[.int .i64 x0,.string x1],undef,undef,undef,undef,undef],defers:=[] }→K a' V):=fun a' ha=>by
   refine hK a' V ?_ ?_ ?_ ⟨W.heap.size,ha,?_⟩
   ·rw [← hV];exact (KeepsOthers.alloc W _).from _
   ·rw [← hV];exact KeepsWalks.alloc W _
   ·rw [← hV];exact hIO.alloc _ hi
   ·rw [← hV];exact World.alloc_heap_new W _
  clear hK hi
  gi_wp2
  exact HK.out _ rfl
 case body=>
  rintro l pre x a' W hll hrec ⟨⟨v,hv,hrow,_⟩,hB⟩ ⟨b,rfl,hbx⟩ hlt2;have hc:=hv.cell;have hsW:=hB.size;obtain ⟨k0,k1⟩:=x;simp only [puV] at hbx ⊢;have e0:W.cell? ⟨b,0,none⟩=some (.int .i64 k0):=by simp [World.cell?,hbx]
  have e1:W.cell? ⟨b,1,none⟩=some (.string k1):=by simp [World.cell?,hbx]
  have hnw:=pu_news W (k0,k1);clear hbx hll hrec
  gi_wp2_with (gi_at_builtin;refine wpListIn_append_own _ rfl _ _ 190 rfl w.heap.size 193 i0 (.agg #[.int .i64 0,.string ByteArray.empty]) 2 24 underlying190 hi hz0 hz1 hz2 rfl (by decide) _ _ _ rfl (hrow.alloc _) ⟨W.heap.size,0,none⟩ 1 1 [.int .i64 k0,.string k1] rfl rfl hnw (by intro u hu;simp at hu;rcases hu with rfl | rfl <;> rfl) (by unfold maxLen;omega) (by omega) (by simp;omega) ?_;intro v' w1 hown' hgrow _;obtain ⟨g',cap',rfl⟩:=ownsRow_succ hown';obtain ⟨hv1,hv2,hr2,hk2,hb2⟩:=hv.appended (by decide) hrow hB.size (Nat.le_refl _) hown' hgrow;have hc1:=hv1.cell;have hf1:=hv1.frozen)
  refine ⟨hk2.from _,⟨hk2.size,fun k o ho hw=>hk2.same k o ho (Obj.not_cells_of_walk hw)⟩,⟨_,hv2,?_⟩,hB.trans hb2⟩
  rw [puRow_append,puRow_one,List.length_append];exact hr2
 case done=>
  rintro D ys W hD hS ⟨⟨v,hv,hrow,_⟩,hB⟩ hK;have hc:=hv.cell
  gi_wp2
  refine ⟨by simp,.inl ⟨_,_,rfl,run_takeDeferred hK,?_⟩⟩
  exact ⟨_,results_tmp rfl _ _ _,v,ys,rfl,hS,ownsRow_putObj hrow _ hK rfl,hB.trans (belowK_b (w:=w) (Nat.le_refl _) W D _ _ (by omega) hK rfl rfl)⟩
 case stop=>
  rintro D c pre W hD hpre hf;exact absurd hf id
theorem Qfv.shape {W:World} {n:Nat} {v:Value} {l:List PuK} (h:Qfv W n v l):∃ a c,v=.slice a l.length c:=by
 rcases h.2 with ⟨e,h0⟩ | ⟨g1,c1,cur,e,_⟩
 ·exact ⟨none,0,by rw [e,h0]⟩
 ·exact ⟨_,_,e⟩
theorem sortedU (Bn bm:Nat) (ps:List Pu) (vs:Nat→Value) (w:World) (hlt:Bn<w.heap.size) (hBn:w.cell? ⟨Bn,0,none⟩=some (.map (some bm))) (hm:UMap w bm ps vs) (hl:ps.length≤1000) (hnd:(ps.map Pu.key).Nodup) :
  Calls prog 130 #[.func (.func 167) #[] #[.pointer (some ⟨Bn,0,none⟩)],.func (.func 132) #[] #[]] w fun e w'=>∃ a c,e=.returned (.slice a (QcH (ps.map Pu.key)).length c)∧Hid (Qfv w' w.heap.size (.slice a (QcH (ps.map Pu.key)).length c) (QcH (ps.map Pu.key))∧(QcH (ps.map Pu.key)).Perm (ps.map Pu.key)∧Below w.heap.size w w'):=by
 have HA:Hid (Calls _ _ _ _ _):=appendSeqU Bn bm ps vs w hlt hBn hm hl;have HC:Hid (Calls prog 165 #[.func (.func 167) #[] #[.pointer (some ⟨Bn,0,none⟩)]] w fun e w'=>∃ a c L,e=.returned (.slice a L.length c)∧Hid (L.Perm (ps.map Pu.key)∧Qfv w' w.heap.size (.slice a L.length c) L∧Below w.heap.size w w')):=by
  clear hBn hm;go_enter func165,ntmps165
  go_wp2_with fail;refine HA.out.mono ?_;rintro e w' ⟨v,L,rfl,h1,h2,h3⟩;obtain ⟨a,c,rfl⟩:=h2.shape;have HB:Hid (L.Perm (ps.map Pu.key)∧Qfv w' w.heap.size (.slice a L.length c) L∧Below w.heap.size w w'):=⟨h1,h2,h3⟩;clear h1 h2 h3 HA;go_wp2;go_ret;exact ⟨_,_,_,rfl,HB⟩
 clear hBn hm HA;go_enter func130,ntmps130
 go_wp2_with fail;refine HC.out.mono ?_;rintro e w1 ⟨a,c,L,rfl,h1⟩;have HS:Hid (Calls prog 166 #[.slice a L.length c,.func (.func 132) #[] #[]] w1 fun e w'=>e=.returned (.tuple #[])∧Hid ((QcH (ps.map Pu.key)).length=L.length∧Qfv w' w.heap.size (.slice a L.length c) (QcH (ps.map Pu.key))∧(QcH (ps.map Pu.key)).Perm (ps.map Pu.key)∧Below w.heap.size w w')):=by
  obtain ⟨p1,p2,p3⟩:=h1.out;have hlen:=p1.length_eq;rw [List.length_map] at hlen;refine (puSort_any w1 w.heap.size _ L p2 (by omega) ((p1.nodup_iff).2 hnd)).mono ?_
  rintro e w' ⟨rfl,R,r1,r2,r3,r4⟩;have es:QcH (ps.map Pu.key)=R:=srtU_of (r1.trans p1) r2;rw [es];refine ⟨rfl,r1.length_eq,r3,r1.trans p1,p3.grown r4 p3.size fun j ej=>?_⟩
  rcases p2.2 with ⟨e,_⟩ | ⟨g1,c1,cur,e,hb1,_⟩
  ·injection e with e1 e2 e3
   subst e1;cases ej
  ·injection e with e1 e2 e3
   subst e1;cases ej;exact hb1
 clear HC h1;go_wp2_with fail;refine HS.out.mono ?_;rintro e w2 ⟨rfl,h2⟩;clear HS;go_wp2;go_ret;obtain ⟨q1,q2⟩:=h2.out;rw [q1];exact ⟨_,_,rfl,q2⟩
end
section
open Go.RowKit Go.Lib Go.Proofs.Tryz
theorem Qds {U W:World} {b:Nat} (h:U.heap[b]? = W.heap[b]?) (o:Nat):U.cell? ⟨b,o,none⟩=W.cell? ⟨b,o,none⟩:=by simp [World.cell?,h]
theorem Qb8 {W:World} {n:Nat} {ty:TypeId} {size:Nat} {v:Value} {k:Nat} {row:List Value} (h:W.ownsRow n ty size v k row) :
  (v=.slice none 0 0∧k=0)∨∃ g c,v=.slice (some ⟨g,0,none⟩) k c∧k≤c∧n≤g∧g<W.heap.size∧(∃ cs,W.heap[g]? = some (.cells cs ty (0,0)))∧∀ U:World,U.heap[g]? = W.heap[g]?→∀ (j:Nat) (u:Value),row[j]? = some u→U.cell? ⟨g,j,none⟩=some u:=by
 obtain ⟨hlen,⟨hv,hn⟩ | ⟨g,c,cur,hv,hb,hh,hc,hm,hs,ht⟩⟩:=h
 ·exact .inl ⟨hv,hn⟩
 ·refine .inr ⟨g,c,hv,hc,hb,(Array.getElem?_eq_some_iff.1 hh).1,⟨cur,hh⟩,fun U hU j u hj=>?_⟩
  rw [hh] at hU;have hjl:=(List.getElem?_eq_some_iff.1 hj).1;rw [← ht,List.getElem?_take,if_pos (by omega)] at hj
  simpa [World.cell?,hU] using hj
theorem QbU {W:World} {n:Nat} {ty:TypeId} {size:Nat} {g k c:Nat} {row:List Value} (h:W.ownsRow n ty size (.slice (some ⟨g,0,none⟩) k c) k row) (j:Nat) (hj:j<row.length) (v:Value) :
  (W.setCell ⟨g,j,none⟩ v).ownsRow n ty size (.slice (some ⟨g,0,none⟩) k c) k (row.set j v):=by
 obtain ⟨hlen,⟨hv,hn⟩ | ⟨g1,c1,cur,hv,hb,hh,hc,hm,hs,ht⟩⟩:=h
 ·cases hv
 ·cases hv;refine ⟨by rw [List.length_set];exact hlen,.inr ⟨g,c,cur.setIfInBounds j v,rfl,hb,?_,hc,hm,by simpa using hs,?_⟩⟩
  ·rw [setCell_eq_setRow W g j cur ty (0,0) _ hh];exact setRow_heap W g cur _ ty (0,0) hh
  ·rw [← ht,Array.toList_setIfInBounds,List.take_set]
theorem Qbw {W:World} {n:Nat} {ty:TypeId} {size:Nat} {g k c:Nat} {row:List Value} (h:W.ownsRow n ty size (.slice (some ⟨g,0,none⟩) k c) k row) (j:Nat):W.frozen? ⟨g,j,none⟩=false:=by
 obtain ⟨hlen,⟨hv,hn⟩ | ⟨g1,c1,cur,hv,hb,hh,hc,hm,hs,ht⟩⟩:=h
 ·cases hv
 ·cases hv;simp [World.frozen?,hh]
theorem Qgp {W:World} {n:Nat} {ty:TypeId} {size:Nat} {g k c:Nat} {row:List Value} (h:W.ownsRow n ty size (.slice (some ⟨g,0,none⟩) k c) k row) {j:Nat} {u:Value} (hj:row[j]? = some u):W.cell? ⟨g,j,none⟩=some u:=by
 rcases Qb8 h with ⟨e,_⟩ | ⟨g1,c1,e,_,_,_,_,h1⟩
 ·cases e
 ·cases e;exact h1 W rfl j u hj
def Qg9 (l:List Pn):List Value:=l.flatMap fun x=>x.cells.toList
theorem Pn.cells_length (x:Pn):x.cells.toList.length=8:=rfl
theorem Qd8:∀ l:List Pn,(Qg9 l).length=l.length*8
 | []=>rfl
 | x :: l=>by
  have:=Qd8 l
  unfold Qg9 at *
  simp only [List.flatMap_cons,List.length_append,Pn.cells_length,this,List.length_cons];omega
theorem Qh8:∀ (l:List Pn) (k j:Nat),k<l.length→j<8→(Qg9 l)[k*8+j]? = (l.getD k pn0).cells.toList[j]?
 | [],_,_,h,_=>absurd h (by simp)
 | x :: l,0,j,_,hj=>by
  simp only [Qg9,List.flatMap_cons,Nat.zero_mul,Nat.zero_add,List.getD_cons_zero];rw [List.getElem?_append_left (by rw [Pn.cells_length];exact hj)]
 | x :: l,k+1,j,h,hj=>by
  have ih:=Qh8 l k j (by simpa using h) hj
  simp only [Qg9,List.flatMap_cons,List.getD_cons_succ] at ih ⊢;rw [List.getElem?_append_right (by rw [Pn.cells_length];omega),Pn.cells_length,← ih]
  congr 1;omega
theorem QiM (l:List Pn):∀ u∈Qg9 l,u.oneCell'=true:=by
 intro u hu;obtain ⟨x,_,hx⟩:=List.mem_flatMap.1 hu;simp [Pn.cells] at hx;rcases hx with rfl | rfl | rfl | rfl | rfl | rfl | rfl | rfl <;> rfl
theorem pn_src {W:World} {b off:Nat} {l:List Pn} (h:∀ k,k<l.length→Qio W b (off+k*8) (l.getD k pn0)):∀ j u,(Qg9 l)[j]? = some u→W.cell? ((⟨b,off,none⟩:Addr).add j)=some u:=by
 intro j u hj;rw [Addr.add_lit];obtain ⟨q,r,hr,rfl⟩:∃ q r,r<8∧j=q*8+r:=⟨j / 8,j % 8,Nat.mod_lt _ (by omega),by omega⟩
 have hlt:=(List.getElem?_eq_some_iff.1 hj).1;rw [Qd8] at hlt;have hq:q<l.length:=by omega
 rw [Qh8 l q r hq hr] at hj
 have:=h q hq
 rcases (by omega:r=0∨r=1∨r=2∨r=3∨r=4∨r=5∨r=6∨r=7) with rfl | rfl | rfl | rfl | rfl | rfl | rfl | rfl
 ·rw [← hj,Nat.add_zero,this.c0];rfl
 ·rw [← hj,← Nat.add_assoc,this.c1];rfl
 ·rw [← hj,← Nat.add_assoc,this.c2];rfl
 ·rw [← hj,← Nat.add_assoc,this.c3];rfl
 ·rw [← hj,← Nat.add_assoc,this.c4];rfl
 ·rw [← hj,← Nat.add_assoc,this.c5];rfl
 ·rw [← hj,← Nat.add_assoc,this.c6];rfl
 ·rw [← hj,← Nat.add_assoc,this.c7];rfl
theorem pn_at {U:World} {g:Nat} {l:List Pn} (h:∀ (j:Nat) (u:Value),(Qg9 l)[j]? = some u→U.cell? ⟨g,j,none⟩=some u):∀ k,k<l.length→Qio U g (0+k*8) (l.getD k pn0):=fun k hk=>by
 have key:∀ r,r<8→∀ u,(l.getD k pn0).cells.toList[r]? = some u→U.cell? ⟨g,k*8+r,none⟩=some u:=fun r hr u hu=>h _ u (by rw [Qh8 l k r hk hr];exact hu)
 rw [Nat.zero_add];exact ⟨key 0 (by decide) _ rfl,key 1 (by decide) _ rfl,key 2 (by decide) _ rfl,key 3 (by decide) _ rfl,key 4 (by decide) _ rfl,key 5 (by decide) _ rfl,key 6 (by decide) _ rfl,key 7 (by decide) _ rfl⟩
theorem pr_src {W:World} {b off:Nat} {l:List Pr} (h:∀ k,k<l.length→Qhd W b (off+k*5) (l.getD k pr0)):∀ j u,(Qgv l)[j]? = some u→W.cell? ((⟨b,off,none⟩:Addr).add j)=some u:=by
 intro j u hj;rw [Addr.add_lit];obtain ⟨q,r,hr,rfl⟩:∃ q r,r<5∧j=q*5+r:=⟨j / 5,j % 5,Nat.mod_lt _ (by omega),by omega⟩
 have hlt:=(List.getElem?_eq_some_iff.1 hj).1;rw [QdH] at hlt;have hq:q<l.length:=by omega
 rw [QhE l q r hq hr] at hj
 have:=h q hq
 rcases (by omega:r=0∨r=1∨r=2∨r=3∨r=4) with rfl | rfl | rfl | rfl | rfl
 ·rw [← hj,Nat.add_zero,this.c0];rfl
 ·rw [← hj,← Nat.add_assoc,this.c1];rfl
 ·rw [← hj,← Nat.add_assoc,this.c2];rfl
 ·rw [← hj,← Nat.add_assoc,this.c3];rfl
 ·rw [← hj,← Nat.add_assoc,this.c4];rfl
theorem pr_at {U:World} {g:Nat} {l:List Pr} (h:∀ (j:Nat) (u:Value),(Qgv l)[j]? = some u→U.cell? ⟨g,j,none⟩=some u):∀ k,k<l.length→Qhd U g (0+k*5) (l.getD k pr0):=fun k hk=>by
 have key:∀ r,r<5→∀ u,(l.getD k pr0).cells.toList[r]? = some u→U.cell? ⟨g,k*5+r,none⟩=some u:=fun r hr u hu=>h _ u (by rw [QhE l k r hk hr];exact hu)
 rw [Nat.zero_add];exact ⟨key 0 (by decide) _ rfl,key 1 (by decide) _ rfl,key 2 (by decide) _ rfl,key 3 (by decide) _ rfl,key 4 (by decide) _ rfl⟩
def QcD (l:List Po):List Value:=l.flatMap fun x=>x.cells.toList
theorem Po.cells_length (x:Po):x.cells.toList.length=4:=rfl
theorem Qbk:∀ l:List Po,(QcD l).length=l.length*4
 | []=>rfl
 | x :: l=>by
  have:=Qbk l
  unfold QcD at *
  simp only [List.flatMap_cons,List.length_append,Po.cells_length,this,List.length_cons];omega
theorem Qb3:∀ (l:List Po) (k j:Nat),k<l.length→j<4→(QcD l)[k*4+j]? = (l.getD k po0).cells.toList[j]?
 | [],_,_,h,_=>absurd h (by simp)
 | x :: l,0,j,_,hj=>by
  simp only [QcD,List.flatMap_cons,Nat.zero_mul,Nat.zero_add,List.getD_cons_zero];rw [List.getElem?_append_left (by rw [Po.cells_length];exact hj)]
 | x :: l,k+1,j,h,hj=>by
  have ih:=Qb3 l k j (by simpa using h) hj
  simp only [QcD,List.flatMap_cons,List.getD_cons_succ] at ih ⊢;rw [List.getElem?_append_right (by rw [Po.cells_length];omega),Po.cells_length,← ih]
  congr 1;omega
theorem QiH (l:List Po):∀ u∈QcD l,u.oneCell'=true:=by
 intro u hu;obtain ⟨x,_,hx⟩:=List.mem_flatMap.1 hu;simp [Po.cells] at hx;rcases hx with rfl | rfl | rfl | rfl <;> rfl
theorem po_src {W:World} {b off:Nat} {l:List Po} (h:∀ k,k<l.length→Qix W b (off+k*4) (l.getD k po0)):∀ j u,(QcD l)[j]? = some u→W.cell? ((⟨b,off,none⟩:Addr).add j)=some u:=by
 intro j u hj;rw [Addr.add_lit];obtain ⟨q,r,hr,rfl⟩:∃ q r,r<4∧j=q*4+r:=⟨j / 4,j % 4,Nat.mod_lt _ (by omega),by omega⟩
 have hlt:=(List.getElem?_eq_some_iff.1 hj).1;rw [Qbk] at hlt;have hq:q<l.length:=by omega
 rw [Qb3 l q r hq hr] at hj
 have:=h q hq
 rcases (by omega:r=0∨r=1∨r=2∨r=3) with rfl | rfl | rfl | rfl
 ·rw [← hj,Nat.add_zero,this.c0];rfl
 ·rw [← hj,← Nat.add_assoc,this.c1];rfl
 ·rw [← hj,← Nat.add_assoc,this.c2];rfl
 ·rw [← hj,← Nat.add_assoc,this.c3];rfl
theorem po_at {U:World} {g:Nat} {l:List Po} (h:∀ (j:Nat) (u:Value),(QcD l)[j]? = some u→U.cell? ⟨g,j,none⟩=some u):∀ k,k<l.length→Qix U g (0+k*4) (l.getD k po0):=fun k hk=>by
 have key:∀ r,r<4→∀ u,(l.getD k po0).cells.toList[r]? = some u→U.cell? ⟨g,k*4+r,none⟩=some u:=fun r hr u hu=>h _ u (by rw [Qb3 l k r hk hr];exact hu)
 rw [Nat.zero_add];exact ⟨key 0 (by decide) _ rfl,key 1 (by decide) _ rfl,key 2 (by decide) _ rfl,key 3 (by decide) _ rfl⟩
theorem isPn_own {W U:World} {n:Nat} {ty:TypeId} {a:Option Addr} {l:List Pn} {c:Nat} (h:W.ownsRow n ty 8 (.slice a l.length c) l.length (Qg9 l)) (hb:∀ x:Addr,a=some x→n≤x.block→x.block<W.heap.size→(∃ cs,W.heap[x.block]? = some (.cells cs ty (0,0)))→U.heap[x.block]? = W.heap[x.block]?):Qe6 U a l c:=by
 rcases Qb8 h with ⟨e,h0⟩ | ⟨g,c1,e,hc,hn,hlt,hcs,hcell⟩
 ·injection e with e1 e2 e3
  exact ⟨by omega,.inl (List.eq_nil_of_length_eq_zero e2)⟩
 ·injection e with e2 e3 e4
  subst e2;subst e4;have e1:=hb _ rfl hn hlt hcs;refine ⟨hc,.inr ⟨g,0,rfl,?_,pn_at (hcell U e1)⟩⟩;obtain ⟨cs,hcs⟩:=hcs;rw [hcs] at e1;exact (Array.getElem?_eq_some_iff.1 e1).1
theorem isPr_own {W U:World} {n:Nat} {ty:TypeId} {a:Option Addr} {l:List Pr} {c:Nat} (h:W.ownsRow n ty 5 (.slice a l.length c) l.length (Qgv l)) (hb:∀ x:Addr,a=some x→n≤x.block→x.block<W.heap.size→(∃ cs,W.heap[x.block]? = some (.cells cs ty (0,0)))→U.heap[x.block]? = W.heap[x.block]?):QfP U a l c:=by
 rcases Qb8 h with ⟨e,h0⟩ | ⟨g,c1,e,hc,hn,hlt,hcs,hcell⟩
 ·injection e with e1 e2 e3
  exact ⟨by omega,.inl (List.eq_nil_of_length_eq_zero e2)⟩
 ·injection e with e2 e3 e4
  subst e2;subst e4;have e1:=hb _ rfl hn hlt hcs;refine ⟨hc,.inr ⟨g,0,rfl,?_,pr_at (hcell U e1)⟩⟩;obtain ⟨cs,hcs⟩:=hcs;rw [hcs] at e1;exact (Array.getElem?_eq_some_iff.1 e1).1
def QcM (P:Cp) (S:Cs):Prop:=S.es=[]∧P.ea=none∧P.ec=0
section
variable {W:World} {n0 m0 B:Nat} {P:Cp} {S:Cs}
theorem Qby.ne_bs (h:Qby W n0 m0 B P S):B≠P.bm∧B≠P.bs:=by
 obtain ⟨me,mc,hmm⟩:=h.refs.isMap;refine ⟨fun e=>?_,fun e=>?_⟩
 ·rw [← e,h.box] at hmm;cases hmm
 ·have:=h.stg;unfold IMap at this;rw [← e,h.box] at this;cases this
theorem Qby.fresh {W2:World} {P':Cp} {S':Cs} (h:Qby W n0 m0 B P S) (hf:QcM P S) (hb:Below W.heap.size W W2) (i:Nat) (v:Value)
  (hP:P'.ea=P.ea∧P'.ec=P.ec∧P'.bm=P.bm∧P'.bs=P.bs) (hS:S'.es=S.es∧S'.st=S.st) (hc:(QaG P S).setIfInBounds i v=QaG P' S')
  (hd:∀ U,QaF (clX B P W2.heap.size) (W2.setCell ⟨B,i,none⟩ v) U→Dat U P S→(∀ b,W.heap.size≤b→b<W2.heap.size→U.heap[b]? = W2.heap[b]?)→Dat U P' S') :
  Qby (W2.setCell ⟨B,i,none⟩ v) n0 W2.heap.size B P' S'∧QaF (fun b=>b=B) W (W2.setCell ⟨B,i,none⟩ v)∧QcM P' S':=by
 obtain ⟨p1,p2,p3,p4⟩:=hP;obtain ⟨s1,s2⟩:=hS;obtain ⟨f1,f2,f3⟩:=hf;obtain ⟨nb1,nb2⟩:=h.ne_bs;have hlt:=h.lt;have hsz:=hb.size;have hm0:=h.m0;have j2:=h.below hb;have hbx2:W2.heap[B]? = some (.cells (QaG P S) 79 (0,0)):=j2.box;have hoth:∀ b,b≠B→(W2.setCell ⟨B,i,none⟩ v).heap[b]? = W2.heap[b]?:=fun b hne=>Below.heap_setCell _ _ _ _ hne
 have hs2:(W2.setCell ⟨B,i,none⟩ v).heap.size=W2.heap.size:=by simp [World.setCell]
 have hk:QaF (fun b=>b=B) W (W2.setCell ⟨B,i,none⟩ v):=⟨hb.os,hb.tape,hb.output,by omega,fun b hlt2 hx=>(hoth b hx).trans (hb.block b hlt2)⟩
 refine ⟨⟨?_,?_,?_,?_,?_,fun U hU=>?_,⟨h.hB.1,by omega⟩,⟨by rw [p3];exact h.hm.1,by rw [p3];have:=h.hm.2;omega⟩,⟨by rw [p4];exact h.hs.1,by rw [p4];have:=h.hs.2;omega⟩,by omega,by rw [p3,p4];exact h.ne⟩,hk,⟨by rw [s1];exact f1,by rw [p1];exact f2,by rw [p2];exact f3⟩⟩
 ·rw [setCell_eq_setRow W2 B i _ 79 (0,0) _ hbx2,setRow_heap W2 B _ _ 79 (0,0) hbx2,hc]
 ·rw [s1,p3];exact j2.refs.of (hoth _ fun e=>nb1 e.symm)
 ·rw [s2,p4];exact (hoth _ fun e=>nb2 e.symm).trans j2.stg
 ·rw [s1,p1,p2,f1,f2,f3];exact Qbf.nil _ _
 ·rw [s1,f1];intro x hx;cases hx
 ·have e:∀ b,clX B P' W2.heap.size b→clX B P W2.heap.size b:=fun b hx=>by
   rcases hx with hx | hx | hx | hx
   ·exact .inl hx
   ·exact .inr (.inl (by rw [← p3];exact hx))
   ·exact .inr (.inr (.inl (by rw [← p4];exact hx)))
   ·exact .inr (.inr (.inr hx))
  have hU2:QaF (clX B P W2.heap.size) (W2.setCell ⟨B,i,none⟩ v) U:=hU.mono e;refine hd U hU2 (h.data U ⟨hU.os.trans hk.os,hU.tape.trans hk.tape,hU.output.trans hk.output,Nat.le_trans hk.size hU.size,fun b hlt2 hx=>?_⟩) (fun b hb1 hb2=>?_)
  ·have hne:¬ clX B P W2.heap.size b:=fun hh=>by
    rcases hh with hh | hh | hh | hh
    ·exact hx (.inl hh)
    ·exact hx (.inr (.inl hh))
    ·exact hx (.inr (.inr (.inl hh)))
    ·omega
   exact (hU2.block b (by omega) hne).trans (hk.block b hlt2 fun e=>hx (.inl e))
  ·have l1:=h.lt;have l2:=h.refs.lt;have l3:=h.stg.lt;have hne:¬ clX B P W2.heap.size b:=fun hh=>by
    rcases hh with hh | hh | hh | hh <;> omega
   exact (hU2.block b (by omega) hne).trans (hoth b (by omega))
set_option maxHeartbeats 4000000 in
theorem clPlans_any (h:Qby W n0 m0 B P S) (hf:QcM P S) (al:Option Addr) (l:List Pn) (cl:Nat) (hl:Qe6 W al l cl) (hll:l.length≤9223372036854775807) :
  Calls prog 11 #[.pointer (some ⟨B,0,none⟩),.slice al l.length cl] W fun e w'=>
   (QaW S.c l≠0∧e=.returned (chE (QaW S.c l))∧Below W.heap.size W w') ∨
   (QaW S.c l=0∧e=.returned .nilIface∧∃ m1 pa pc,Hid (Qby w' n0 m1 B { P with pna:=pa,pnc:=pc } { S with pn:=l }∧QaF (fun b=>b=B) W w'∧QcM { P with pna:=pa,pnc:=pc } { S with pn:=l })):=by
 have k0:W.cell? ⟨B,0,none⟩=some (.slice P.ca S.c.length P.cc):=h.cell 0;have HC:Hid (Calls _ _ _ _ _):=Qh0 P.ca al P.cc cl S.c l W h.dat.ch hl hll;by_cases c0:QaW S.c l≠0
 ·rw [Qae c0] at HC;have Hc0:Hid (QaW S.c l≠0):=c0;clear h hf hl;generalize QaW S.c l=z at *
  go_enter func11,ntmps11
  go_wp2_with fail;refine HC.out.mono ?_;rintro e w1 ⟨rfl,hb1⟩;have HB:Hid (Below W.heap.size W w1):=hb1;clear HC hb1 k0;go_wp2;go_ret;exact .inl ⟨Hc0.out,(Qae Hc0.out).symm▸rfl,HB.out⟩
 ·have c0':=Decidable.of_not_not c0;rw [c0',Qaj] at HC;have hl20:l.length≤20:=(Qdb c0').2.1;have HJ:Hid (Qby W n0 m0 B P S∧QcM P S):=⟨h,hf⟩;have HCl:Hid (∀ U,Below W.heap.size W U→Calls prog 38 #[.slice al l.length cl] U fun e w'=>∃ a' c',e=.returned (.slice a' l.length c')∧w'.ownsRow U.heap.size 93 8 (.slice a' l.length c') l.length (Qg9 l)∧Below U.heap.size U w'):=fun U hU=>by
   refine clone_Pn al l.length cl (Qg9 l) U (Qd8 l) (QiM l) (fun h0=>?_) (by omega)
   rcases (hl.below hU).lies with hh | ⟨b,off,rfl,hlt,hc⟩
   ·rw [hh] at h0;exact absurd rfl h0
   ·exact ⟨_,rfl,hlt,pn_src hc⟩
  have Hc0:Hid (QaW S.c l=0):=c0';clear h hf hl c0 c0';go_enter func11,ntmps11
  go_wp2_with fail;refine HC.out.mono ?_;rintro e w1 ⟨rfl,hb1⟩;have HC1:Hid (Calls _ _ _ _ _):=HCl.out w1 hb1;have HB1:Hid (Below W.heap.size W w1):=hb1;clear HC hb1 k0 HCl;go_wp2_with fail;refine HC1.out.mono ?_;rintro e w2 ⟨a',c',rfl,hown,hb2⟩;have hW2:Below W.heap.size W w2:=HB1.out.trans (hb2.mono HB1.out.size);have j2:=HJ.out.1.below hW2;have c5:w2.cell? ⟨B,5,none⟩=some (.slice P.pna S.pn.length P.pnc):=j2.cell 5
  have f5:w2.frozen? ⟨B,5,none⟩=false:=j2.fz 5;have HE:Hid (Qby (w2.setCell ⟨B,5,none⟩ (.slice a' l.length c')) n0 w2.heap.size B { P with pna:=a',pnc:=c' } { S with pn:=l }∧QaF (fun b=>b=B) W (w2.setCell ⟨B,5,none⟩ (.slice a' l.length c'))∧QcM { P with pna:=a',pnc:=c' } { S with pn:=l }):=by
   refine HJ.out.1.fresh HJ.out.2 hW2 5 _ ⟨rfl,rfl,rfl,rfl⟩ ⟨rfl,rfl⟩ (by unfold QaG;simp) fun U hU hD hN=>?_
   have hz1:=HB1.out.size;exact ⟨hD.ch,hD.rt,isPn_own hown (fun x hx h1 h2 _=>hN _ (by omega) h2),hD.po,hD.pr⟩
  clear hown hb2 hW2 j2 HC1 HJ HB1;go_wp2;go_ret;exact .inr ⟨Hc0.out,rfl,_,_,_,HE⟩
set_option maxHeartbeats 4000000 in
theorem clPairs_any (h:Qby W n0 m0 B P S) (hf:QcM P S) (al:Option Addr) (l:List Pr) (cl:Nat) (hl:QfP W al l cl) (hll:l.length≤9223372036854775807) :
  Calls prog 13 #[.pointer (some ⟨B,0,none⟩),.slice al l.length cl] W fun e w'=>
   (QaX S.c l≠0∧e=.returned (chE (QaX S.c l))∧Below W.heap.size W w') ∨
   (QaX S.c l=0∧e=.returned .nilIface∧∃ m1 pa pc,Hid (Qby w' n0 m1 B { P with pra:=pa,prc:=pc } { S with pr:=l }∧QaF (fun b=>b=B) W w'∧QcM { P with pra:=pa,prc:=pc } { S with pr:=l })):=by
 have k0:W.cell? ⟨B,0,none⟩=some (.slice P.ca S.c.length P.cc):=h.cell 0;have HC:Hid (Calls _ _ _ _ _):=Qis P.ca al P.cc cl S.c l W h.dat.ch hl hll;by_cases c0:QaX S.c l≠0
 ·rw [Qae c0] at HC;have Hc0:Hid (QaX S.c l≠0):=c0;clear h hf hl;generalize QaX S.c l=z at *
  go_enter func13,ntmps13
  go_wp2_with fail;refine HC.out.mono ?_;rintro e w1 ⟨rfl,hb1⟩;have HB:Hid (Below W.heap.size W w1):=hb1;clear HC hb1 k0;go_wp2;go_ret;exact .inl ⟨Hc0.out,(Qae Hc0.out).symm▸rfl,HB.out⟩
 ·have c0':=Decidable.of_not_not c0;rw [c0',Qaj] at HC;have hl20:l.length≤20:=(QdQ c0').2.1;have HJ:Hid (Qby W n0 m0 B P S∧QcM P S):=⟨h,hf⟩;have HCl:Hid (∀ U,Below W.heap.size W U→Calls prog 44 #[.slice al l.length cl] U fun e w'=>∃ a' c',e=.returned (.slice a' l.length c')∧w'.ownsRow U.heap.size 105 5 (.slice a' l.length c') l.length (Qgv l)∧Below U.heap.size U w'):=fun U hU=>by
   refine clone_Pr al l.length cl (Qgv l) U (QdH l) (QiD l) (fun h0=>?_) (by omega)
   rcases (hl.below hU).lies with hh | ⟨b,off,rfl,hlt,hc⟩
   ·rw [hh] at h0;exact absurd rfl h0
   ·exact ⟨_,rfl,hlt,pr_src hc⟩
  have Hc0:Hid (QaX S.c l=0):=c0';clear h hf hl c0 c0';go_enter func13,ntmps13
  go_wp2_with fail;refine HC.out.mono ?_;rintro e w1 ⟨rfl,hb1⟩;have HC1:Hid (Calls _ _ _ _ _):=HCl.out w1 hb1;have HB1:Hid (Below W.heap.size W w1):=hb1;clear HC hb1 k0 HCl;go_wp2_with fail;refine HC1.out.mono ?_;rintro e w2 ⟨a',c',rfl,hown,hb2⟩;have hW2:Below W.heap.size W w2:=HB1.out.trans (hb2.mono HB1.out.size);have j2:=HJ.out.1.below hW2;have c5:w2.cell? ⟨B,7,none⟩=some (.slice P.pra S.pr.length P.prc):=j2.cell 7
  have f5:w2.frozen? ⟨B,7,none⟩=false:=j2.fz 7;have HE:Hid (Qby (w2.setCell ⟨B,7,none⟩ (.slice a' l.length c')) n0 w2.heap.size B { P with pra:=a',prc:=c' } { S with pr:=l }∧QaF (fun b=>b=B) W (w2.setCell ⟨B,7,none⟩ (.slice a' l.length c'))∧QcM { P with pra:=a',prc:=c' } { S with pr:=l }):=by
   refine HJ.out.1.fresh HJ.out.2 hW2 7 _ ⟨rfl,rfl,rfl,rfl⟩ ⟨rfl,rfl⟩ (by unfold QaG;simp) fun U hU hD hN=>?_
   have hz1:=HB1.out.size;exact ⟨hD.ch,hD.rt,hD.pn,hD.po,isPr_own hown (fun x hx h1 h2 _=>hN _ (by omega) h2)⟩
  clear hown hb2 hW2 j2 HC1 HJ HB1;go_wp2;go_ret;exact .inr ⟨Hc0.out,rfl,_,_,_,HE⟩
end
end
end Go.Proofs.YtibhgngboljhfaaGreatDoor
