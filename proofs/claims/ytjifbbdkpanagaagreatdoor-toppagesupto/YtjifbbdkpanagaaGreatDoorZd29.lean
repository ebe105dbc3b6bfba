/-
  Part of a proof (see the last text).
-/
import Derived.Test.YtjifbbdkpanagaaGreatDoorZd28
set_option linter.unusedVariables false
set_option linter.unusedSimpArgs false
set_option maxRecDepth 100000
namespace Go.Proofs.YtjifbbdkpanagaaGreatDoor
section
open Go.RowKit Go.Lib Go.Proofs.Tryz
theorem nodup_at {l:List PuK} (h:l.Nodup) {i j:Nat} (hi:i<l.length) (hj:j<l.length) (e:l[i]=l[j]):i=j:=by
 rcases Nat.lt_trichotomy i j with hij | hij | hij
 ·exact absurd e ((List.pairwise_iff_getElem.1 h) i j hi hj hij)
 ·exact hij
 ·exact absurd e.symm ((List.pairwise_iff_getElem.1 h) j i hj hi hij)
structure GrpOk (m:List Bl) (ps:List Pu):Prop where
 nodup:(ps.map Pu.key).Nodup
 bs:∀ p∈ps,p.bs=m.filter (fun x=>decide (x.pur=p.key))
 all:∀ x∈m,x.pur∈ps.map Pu.key
 ne:∀ p∈ps,p.bs≠[]
theorem GrpOk.add {m:List Bl} {ps:List Pu} (h:GrpOk m ps) (x:Bl):GrpOk (m++[x]) (QgF ps x):=by
 by_cases hx:x.pur∈ps.map Pu.key
 ·obtain ⟨p,hp,e⟩:=List.mem_map.1 hx;obtain ⟨j,hj,rfl⟩:=List.getElem_of_mem hp;rw [QhK x ps j hj h.nodup e];have hk:(ps.set j ⟨(ps[j]).key,(ps[j]).bs++[x]⟩).map Pu.key=ps.map Pu.key:=by
   rw [List.map_set];have e1:(ps[j]).key=(ps.map Pu.key)[j]'(by simpa using hj):=by simp
   rw [e1,List.set_getElem_self]
  refine ⟨by rw [hk];exact h.nodup,fun q hq=>?_,fun y hy=>?_,fun q hq=>?_⟩
  ·obtain ⟨i,hi,rfl⟩:=List.getElem_of_mem hq;have hi':i<ps.length:=by simpa using hi
   rw [List.filter_append];by_cases ei:j=i
   ·subst ei;simp only [List.getElem_set_self];rw [h.bs _ (List.getElem_mem hj)];congr 1;simp [e]
   ·simp only [List.getElem_set_ne ei];rw [h.bs _ (List.getElem_mem hi')];have hne:¬ x.pur=(ps[i]).key:=fun e2=>by
     rw [← e] at e2;exact ei (nodup_at h.nodup (i:=j) (j:=i) (by simpa using hj) (by simpa using hi') (by simpa using e2))
    simp [hne]
  ·rw [hk];rcases List.mem_append.1 hy with hy | hy
   ·exact h.all y hy
   ·rw [List.mem_singleton.1 hy];exact hx
  ·obtain ⟨i,hi,rfl⟩:=List.getElem_of_mem hq;have hi':i<ps.length:=by simpa using hi
   by_cases ei:j=i
   ·subst ei;simp only [List.getElem_set_self];simp
   ·simp only [List.getElem_set_ne ei];exact h.ne _ (List.getElem_mem hi')
 ·rw [QhA x ps hx];refine ⟨?_,fun q hq=>?_,fun y hy=>?_,fun q hq=>?_⟩
  ·rw [List.map_append,List.nodup_append];refine ⟨h.nodup,by simp,fun a ha b hb e=>?_⟩
   simp only [List.map_cons,List.map_nil,List.mem_singleton] at hb;exact hx (by rw [← hb,← e];exact ha)
  ·rw [List.filter_append];rcases List.mem_append.1 hq with hq | hq
   ·have hne:¬ x.pur=q.key:=fun e=>hx (by rw [e];exact List.mem_map.2 ⟨q,hq,rfl⟩)
    rw [← h.bs q hq];simp [hne]
   ·rw [List.mem_singleton.1 hq];have e0:m.filter (fun y=>decide (y.pur=x.pur))=[]:=by
     rw [List.filter_eq_nil_iff];intro y hy hd;exact hx (by rw [← of_decide_eq_true hd];exact h.all y hy)
    simp [e0]
  ·rw [List.map_append];rcases List.mem_append.1 hy with hy | hy
   ·exact List.mem_append_left _ (h.all y hy)
   ·rw [List.mem_singleton.1 hy];exact List.mem_append_right _ (by simp)
  ·rcases List.mem_append.1 hq with hq | hq
   ·exact h.ne q hq
   ·rw [List.mem_singleton.1 hq];simp
theorem grp_fold:∀ (r m:List Bl) (ps:List Pu),GrpOk m ps→GrpOk (m++r) (r.foldl QgF ps)
 | [],m,ps,h=>by simpa using h
 | x :: r,m,ps,h=>by
  have:=grp_fold r (m++[x]) (QgF ps x) (h.add x)
  simpa using this
theorem erU_grp (c:List Ac) (l:List Bl):GrpOk (l.filter (Qbi c)) (erU c l):=by
 have h0:GrpOk [] []:=⟨List.nodup_nil,by simp,by simp,by simp⟩
 have:=grp_fold (l.filter (Qbi c)) [] [] h0
 simpa [erU] using this
def Qcg (c:List Ac) (l:List Bl) (k:PuK):List Bl:=(l.filter (Qbi c)).filter fun x=>decide (x.pur=k)
theorem bsOf_mem {c:List Ac} {l:List Bl} {k:PuK} {x:Bl} (h:x∈Qcg c l k):x∈l∧Qbi c x=true∧x.pur=k:=by
 unfold Qcg at h;rw [List.mem_filter,List.mem_filter] at h;exact ⟨h.1.1,h.1.2,of_decide_eq_true h.2⟩
def Qa6 (c:List Ac) (l:List Bl):List PuK:=(erU c l).map Pu.key
theorem pusOf_len (c:List Ac) (l:List Bl):(Qa6 c l).length≤l.length:=by
 have h1:∀ (r:List Bl) (ps:List Pu),(r.foldl QgF ps).length≤ps.length+r.length:=by
  intro r
  induction r with
  | nil=>intro ps;simp
  | cons x r ih=>
   intro ps;have h2:=ih (QgF ps x);have h3:(QgF ps x).length≤ps.length+1:=by
    clear h2 ih
    induction ps with
    | nil=>simp [QgF]
    | cons p ps ih=>
     rw [QgF]
     split
     ·simp
     ·simp only [List.length_cons];omega
   simp only [List.foldl_cons,List.length_cons];omega
 have h2:=h1 (l.filter (Qbi c)) [];have h3:=List.length_filter_le (Qbi c) l;unfold Qa6 erU;rw [List.length_map];simp only [List.length_nil] at h2;omega
theorem rises_uniq:∀ {a b:List PuK},a.Perm b→Qh1 a→Qh1 b→a=b:=fun {a b} hp ha hb=>
 List.Perm.eq_of_pairwise (le:=fun x y=>cmpU x y<0) (fun x y _ _ h1 h2=>absurd (QcW h1 h2) (QgK x)) ha hb hp
def putU (x:PuK):List PuK→List PuK
 | []=>[x]
 | y :: R=>if cmpU x y<0 then x :: y :: R else y :: putU x R
def QcA (L:List PuK):List PuK:=L.foldr putU []
theorem Qg9 (x:PuK):∀ R,(putU x R).Perm (x :: R)
 | []=>.refl _
 | y :: R=>by
  rw [putU]
  split
  ·exact .refl _
  ·exact ((Qg9 x R).cons y).trans (.swap ..)
theorem Qfb:∀ L,(QcA L).Perm L
 | []=>.refl _
 | x :: L=>(Qg9 x _).trans ((Qfb L).cons x)
theorem QiB (x:PuK):∀ R,Qh1 R→x ∉ R→Qh1 (putU x R)
 | [],_,_=>List.pairwise_singleton _ _
 | y :: R,h,hx=>by
  obtain ⟨h1,h2⟩:=List.pairwise_cons.1 h;have hxy:x≠y:=fun e=>hx (by rw [e];exact List.mem_cons_self ..)
  rw [putU];by_cases hlt:cmpU x y<0
  ·rw [if_pos hlt];refine List.pairwise_cons.2 ⟨fun z hz=>?_,h⟩
   rcases List.mem_cons.1 hz with rfl | hz
   ·exact hlt
   ·exact QcW hlt (h1 z hz)
  ·rw [if_neg hlt];refine List.pairwise_cons.2 ⟨fun z hz=>?_,QiB x R h2 (fun hm=>hx (List.mem_cons_of_mem _ hm))⟩
   rcases List.mem_cons.1 ((Qg9 x R).mem_iff.1 hz) with rfl | hz
   ·exact Qd2 hlt hxy
   ·exact h1 z hz
theorem Qiq:∀ L:List PuK,L.Nodup→Qh1 (QcA L)
 | [],_=>.nil
 | x :: L,h=>by
  obtain ⟨h1,h2⟩:=List.nodup_cons.1 h;exact QiB x _ (Qiq L h2) (fun hm=>h1 ((Qfb L).mem_iff.1 hm))
theorem srtU_of {L R:List PuK} (h1:R.Perm L) (h2:Qh1 R):QcA L=R:=
 rises_uniq ((Qfb L).trans h1.symm) (Qiq L (h1.nodup_iff.1 (List.Pairwise.imp (fun {a b} h e=>by subst e;exact QgK _ h) h2))) h2
def QcQ (c:List Ac) (R:List Bl):Int:=
 if erE c R≠0 then erE c R else Qad (fun i=>cgE (Qcg c R ((QcA (Qa6 c R)).getD i pu0))) (QcA (Qa6 c R)).length
def clE (c:List Ac) (kept:ByteArray) (pe:Int) (R:List Bl) (k:PuK):Ep:=⟨ByteArray.empty,k.1,pe,cgL kept (Qcg c R k)⟩
def Qgi (c:List Ac) (kept:ByteArray) (pe:Int) (R:List Bl):List Ep:=(QcA (Qa6 c R)).map (clE c kept pe R)
theorem erE_ok {c:List Ac} {l:List Bl} (h:erE c l=0) {x:Bl} (hx:x∈l) (he:Qbi c x=true):QaJ x.amt=true:=by
 unfold erE at h;split at h
 ·exact absurd h (by decide)
 ·rename_i hn
  cases hA:QaJ x.amt with
  | true=>rfl
  | false=>exact absurd (List.any_eq_true.2 ⟨x,hx,by rw [he,hA];rfl⟩) hn
section
variable {W:World} {n mb:Nat} {ps:List Pu} {vs:Nat→Value}
theorem run_ulook (h:PuMp W n mb ps vs) {i:Nat} (hi:i<ps.length):(Instr.lookup 227 (.map (some mb)) (puV (ps[i]).key) false).run prog W=.ok (vs i) W:=by
 obtain ⟨kl,hkl⟩:=Qgz (h.keys _ (List.getElem_mem hi));have hke:∀ e∈(QaE ps vs),∃ l,keyOf prog 233 e.key=some l:=fun e he=>by
  obtain ⟨i,hi,rfl⟩:=Qd1 he;exact Qgz (h.keys _ (List.getElem_mem hi))
 rcases Qiv.find W hkl (QaE ps vs) hke with ⟨h1,h2⟩ | ⟨j,e0,h1,h2,h3⟩
 ·exact absurd rfl (h2 _ (List.mem_of_getElem? (QaW ps vs i hi)))
 ·have hj:j<ps.length:=by have:=(List.getElem?_eq_some_iff.1 h2).1;rw [QaB] at this;exact this
  have he0:e0=⟨puV (ps[j]).key,vs j,j⟩:=by rw [QaW ps vs j hj] at h2;exact (Option.some.inj h2).symm
  have hkj:(ps[j]).key=(ps[i]).key:=puV_inj (by rw [he0] at h3;exact h3)
  have hij:j=i:=nodup_at h.nodup (i:=j) (j:=i) (by simpa using hj) (by simpa using hi) (by simpa using hkj)
  subst hij;rw [he0] at h1;simp [Instr.lookup,run_underlying Qcc,MapKept.run_getObj_map h.map,Qiv.check W _ hkl,h1,Result.andThen]
end
end
section
open Go.RowKit Go.Shelf Go.Proofs.Tryz
attribute [local go_sem] Oper.semAt_some
theorem purse_info:(prog.info? 233).map (fun i=>(i.zero,i.size,i.bytes))=some (some (.agg #[.int .i64 0,.string ByteArray.empty]),2,24):=by kernel_rfl
theorem pu_news (w:World) (k:PuK):∀ j u,([.int .i64 k.1,.string k.2]:List Value)[j]? = some u→(w.alloc (.cells #[.int .i64 k.1,.string k.2] 233)).cell? ((⟨w.heap.size,0,none⟩:Addr).add j)=some u:=fun j u h=>by
 have hn:=World.alloc_heap_new w (.cells #[.int .i64 k.1,.string k.2] 233);generalize w.alloc (.cells #[.int .i64 k.1,.string k.2] 233)=V at *
 rcases j with _ | _ | j
 ·simp at h;subst h;simp [Addr.add,World.cell?,hn]
 ·simp at h;subst h;simp [Addr.add,World.cell?,hn]
 ·simp at h
set_option maxHeartbeats 8000000 in
theorem appendSeqU (Bn bm:Nat) (ps:List Pu) (vs:Nat→Value) (w:World) (hlt:Bn<w.heap.size) (hBn:w.cell? ⟨Bn,0,none⟩=some (.map (some bm))) (hm:UMap w bm ps vs) (hl:ps.length≤1000) :
  Calls prog 212 #[.slice none 0 0,.func (.func 181) #[] #[.pointer (some ⟨Bn,0,none⟩)]] w fun e w'=>∃ v L,e=.returned v∧L.Perm (ps.map Pu.key)∧Qe5 w' w.heap.size v L∧Below w.heap.size w w':=by
 obtain ⟨i0,hi,hz0,hz1,hz2⟩:=info_parts purse_info;have q0:=Boxed.new w 230 (.slice none 0 0);have hB0:Below w.heap.size w (w.alloc (.cells #[.slice none 0 0] 230)):=(Below.refl _ w).alloc (Nat.le_refl _) _;have c1:(w.alloc (.cells #[.slice none 0 0] 230)).cell? ⟨Bn,0,none⟩=some (.map (some bm)):=(hB0.cell (p:=⟨Bn,0,none⟩) hlt).trans hBn;have c2:UMap (w.alloc (.cells #[.slice none 0 0] 230)) bm ps vs:=(hB0.block bm (Array.getElem?_eq_some_iff.1 hm).1).trans hm
 have hsz:(w.alloc (.cells #[.slice none 0 0] 230)).heap.size=w.heap.size+1:=by simp
 have r0:World.ownsRow (w.alloc (.cells #[.slice none 0 0] 230)) w.heap.size 233 2 (.slice none 0 0) 0 []:=World.ownsRow_nil _ _ _ _;clear hBn hm;refine (callsIn_wide (n:=9)).1 ?_;refine callsIn_of_wp_marks func212 rfl trivial ?_ rfl;simp only [ntmps212,List.size_toArray,List.length_cons,List.length_nil,Nat.reduceAdd,Nat.reduceSub,Array.replicate_succ,Array.replicate_zero,List.push_toArray,List.append_toArray,List.nil_append,List.cons_append]
 gi_wp2
 generalize (w.alloc (.cells #[.slice none 0 0] 230))=W0 at *
 have hIO:OwnFrom W0.heap.size (fun (pre:List PuK) W=>(∃ v,Boxed W w.heap.size 230 v∧W.ownsRow w.heap.size 233 2 v pre.length (Qeb pre)∧True)∧Below w.heap.size w W):=
  OwnFrom.and (Own.from (holdsRow_own w.heap.size w.heap.size 230 233 2 (fun pre:List PuK=>pre.length) Qeb (fun _ _=>True)) _) (ownFrom_below (Nat.le_refl _) (by omega))
 refine wpIn_rangeFunc_ownH (α:=PuK) rfl (by omega) (gf:=181) (lb:=#[.pointer (some ⟨Bn,0,none⟩)]) rfl trivial (enters_of func181 (by kernel_rfl) rfl)
  (keysU_stops 8 (by omega) Bn bm ps vs W0 (by omega) c1 c2) walksK_t walksK_b (Below.refl _ _) (fun _=>rfl)
  (fun pre W=>(∃ v,Boxed W w.heap.size 230 v∧W.ownsRow w.heap.size 233 2 v pre.length (Qeb pre)∧True)∧Below w.heap.size w W)
  (fun _ _ _=>False)
  hIO
  (fun _ _ _ _ _ hs _ _=>hs)
  ⟨⟨_,q0,r0,trivial⟩,hB0⟩
  (fun x a' W=>∃ b,a'={ tmps:=#[.slice none 0 0,.func (.func 181) #[] #[.pointer (some ⟨Bn,0,none⟩)],.pointer (some ⟨w.heap.size,0,none⟩),undef,.slice none 0 0,.pointer (some ⟨b,0,none⟩),.func (.func 181) #[] #[.pointer (some ⟨Bn,0,none⟩)],puV x,undef,undef,undef,undef,undef],defers:=[] }∧W.heap[b]? = some (.cells #[.int .i64 x.1,.string x.2] 233 (0,0)))
  (fun x a' s X Y row hs hg hr=>by
   obtain ⟨b,e,hb⟩:=hs;refine ⟨b,e,(hg.block b (Array.getElem?_eq_some_iff.1 hb).1 fun e2=>?_).trans hb⟩
   obtain ⟨_,o,ho,hc⟩:=hr b e2.symm;rw [hb] at ho;cases ho;cases hc)
  ?assign ?body ?done ?stop
 case assign=>
  intro l pre x W K hi hK;obtain ⟨x0,x1⟩:=x;simp only [puV];obtain ⟨V,hV⟩:∃ V,W.alloc (.cells #[.int .i64 x0,.string x1] 233)=V:=⟨_,rfl⟩;have HK:Hid (∀ a',a'={ tmps:=#[.slice none 0 0,.func (.func 181) #[] #[.pointer (some ⟨Bn,0,none⟩)],.pointer (some ⟨w.heap.size,0,none⟩),undef,.slice none 0 0,.pointer (some ⟨W.heap.size,0,none⟩),.func (.func 181) #[] #[.pointer (some ⟨Bn,0,none⟩)],.agg #[.int .i64 x0,.string x1],undef,undef,undef,undef,undef],defers:=[] }→K a' V):=fun a' ha=>by
   refine hK a' V ?_ ?_ ?_ ⟨W.heap.size,ha,?_⟩
   ·rw [← hV];exact (KeepsOthers.alloc W _).from _
   ·rw [← hV];exact KeepsWalks.alloc W _
   ·rw [← hV];exact hIO.alloc _ hi
   ·rw [← hV];exact World.alloc_heap_new W _
  clear hK hi
  gi_wp2
  exact HK.out _ rfl
 case body=>
  rintro l pre x a' W hll hrec ⟨⟨v,hv,hrow,_⟩,hB⟩ ⟨b,rfl,hbx⟩ hlt2;have hc:=hv.cell;have hsW:=hB.size;obtain ⟨k0,k1⟩:=x;simp only [puV] at hbx ⊢;have e0:W.cell? ⟨b,0,none⟩=some (.int .i64 k0):=by simp [World.cell?,hbx]
  have e1:W.cell? ⟨b,1,none⟩=some (.string k1):=by simp [World.cell?,hbx]
  have hnw:=pu_news W (k0,k1);clear hbx hll hrec
  gi_wp2_with (gi_at_builtin;refine wpListIn_append_own _ rfl _ _ 230 rfl w.heap.size 233 i0 (.agg #[.int .i64 0,.string ByteArray.empty]) 2 24 underlying230 hi hz0 hz1 hz2 rfl (by decide) _ _ _ rfl (hrow.alloc _) ⟨W.heap.size,0,none⟩ 1 1 [.int .i64 k0,.string k1] rfl rfl hnw (by intro u hu;simp at hu;rcases hu with rfl | rfl <;> rfl) (by unfold maxLen;omega) (by omega) (by simp;omega) ?_;intro v' w1 hown' hgrow _;obtain ⟨g',cap',rfl⟩:=ownsRow_succ hown';obtain ⟨hv1,hv2,hr2,hk2,hb2⟩:=hv.appended (by decide) hrow hB.size (Nat.le_refl _) hown' hgrow;have hc1:=hv1.cell;have hf1:=hv1.frozen)
  refine ⟨hk2.from _,⟨hk2.size,fun k o ho hw=>hk2.same k o ho (Obj.not_cells_of_walk hw)⟩,⟨_,hv2,?_⟩,hB.trans hb2⟩
  rw [puRow_append,puRow_one,List.length_append];exact hr2
 case done=>
  rintro D ys W hD hS ⟨⟨v,hv,hrow,_⟩,hB⟩ hK;have hc:=hv.cell
  gi_wp2
  refine ⟨by simp,.inl ⟨_,_,rfl,run_takeDeferred hK,?_⟩⟩
  exact ⟨_,results_tmp rfl _ _ _,v,ys,rfl,hS,ownsRow_putObj hrow _ hK rfl,hB.trans (belowK_b (w:=w) (Nat.le_refl _) W D _ _ (by omega) hK rfl rfl)⟩
 case stop=>
  rintro D c pre W hD hpre hf;exact absurd hf id
theorem Qe5.shape {W:World} {n:Nat} {v:Value} {l:List PuK} (h:Qe5 W n v l):∃ a c,v=.slice a l.length c:=by
 rcases h.2 with ⟨e,h0⟩ | ⟨g1,c1,cur,e,_⟩
 ·exact ⟨none,0,by rw [e,h0]⟩
 ·exact ⟨_,_,e⟩
theorem sortedU (Bn bm:Nat) (ps:List Pu) (vs:Nat→Value) (w:World) (hlt:Bn<w.heap.size) (hBn:w.cell? ⟨Bn,0,none⟩=some (.map (some bm))) (hm:UMap w bm ps vs) (hl:ps.length≤1000) (hnd:(ps.map Pu.key).Nodup) :
  Calls prog 147 #[.func (.func 181) #[] #[.pointer (some ⟨Bn,0,none⟩)],.func (.func 149) #[] #[]] w fun e w'=>∃ a c,e=.returned (.slice a (QcA (ps.map Pu.key)).length c)∧Hid (Qe5 w' w.heap.size (.slice a (QcA (ps.map Pu.key)).length c) (QcA (ps.map Pu.key))∧(QcA (ps.map Pu.key)).Perm (ps.map Pu.key)∧Below w.heap.size w w'):=by
 have HA:Hid (Calls _ _ _ _ _):=appendSeqU Bn bm ps vs w hlt hBn hm hl;have HC:Hid (Calls prog 179 #[.func (.func 181) #[] #[.pointer (some ⟨Bn,0,none⟩)]] w fun e w'=>∃ a c L,e=.returned (.slice a L.length c)∧Hid (L.Perm (ps.map Pu.key)∧Qe5 w' w.heap.size (.slice a L.length c) L∧Below w.heap.size w w')):=by
  clear hBn hm;go_enter func179,ntmps179
  go_wp2_with fail;refine HA.out.mono ?_;rintro e w' ⟨v,L,rfl,h1,h2,h3⟩;obtain ⟨a,c,rfl⟩:=h2.shape;have HB:Hid (L.Perm (ps.map Pu.key)∧Qe5 w' w.heap.size (.slice a L.length c) L∧Below w.heap.size w w'):=⟨h1,h2,h3⟩;clear h1 h2 h3 HA;go_wp2;go_ret;exact ⟨_,_,_,rfl,HB⟩
 clear hBn hm HA;go_enter func147,ntmps147
 go_wp2_with fail;refine HC.out.mono ?_;rintro e w1 ⟨a,c,L,rfl,h1⟩;have HS:Hid (Calls prog 180 #[.slice a L.length c,.func (.func 149) #[] #[]] w1 fun e w'=>e=.returned (.tuple #[])∧Hid ((QcA (ps.map Pu.key)).length=L.length∧Qe5 w' w.heap.size (.slice a L.length c) (QcA (ps.map Pu.key))∧(QcA (ps.map Pu.key)).Perm (ps.map Pu.key)∧Below w.heap.size w w')):=by
  obtain ⟨p1,p2,p3⟩:=h1.out;have hlen:=p1.length_eq;rw [List.length_map] at hlen;refine (puSort_any w1 w.heap.size _ L p2 (by omega) ((p1.nodup_iff).2 hnd)).mono ?_
  rintro e w' ⟨rfl,R,r1,r2,r3,r4⟩;have es:QcA (ps.map Pu.key)=R:=srtU_of (r1.trans p1) r2;rw [es];refine ⟨rfl,r1.length_eq,r3,r1.trans p1,p3.grown r4 p3.size fun j ej=>?_⟩
  rcases p2.2 with ⟨e,_⟩ | ⟨g1,c1,cur,e,hb1,_⟩
  ·injection e with e1 e2 e3
   subst e1;cases ej
  ·injection e with e1 e2 e3
   subst e1;cases ej;exact hb1
 clear HC h1;go_wp2_with fail;refine HS.out.mono ?_;rintro e w2 ⟨rfl,h2⟩;clear HS;go_wp2;go_ret;obtain ⟨q1,q2⟩:=h2.out;rw [q1];exact ⟨_,_,rfl,q2⟩
end
section
open Go.RowKit Go.Lib Go.Proofs.Tryz
theorem own_cells {W:World} {n:Nat} {ty:TypeId} {size:Nat} {v:Value} {k:Nat} {row:List Value} (h:W.ownsRow n ty size v k row) :
  (v=.slice none 0 0∧k=0)∨∃ g c,v=.slice (some ⟨g,0,none⟩) k c∧k≤c∧n≤g∧g<W.heap.size∧(∃ cs,W.heap[g]? = some (.cells cs ty (0,0)))∧∀ U:World,U.heap[g]? = W.heap[g]?→∀ (j:Nat) (u:Value),row[j]? = some u→U.cell? ⟨g,j,none⟩=some u:=by
 obtain ⟨hlen,⟨hv,hn⟩ | ⟨g,c,cur,hv,hb,hh,hc,hm,hs,ht⟩⟩:=h
 ·exact .inl ⟨hv,hn⟩
 ·refine .inr ⟨g,c,hv,hc,hb,(Array.getElem?_eq_some_iff.1 hh).1,⟨cur,hh⟩,fun U hU j u hj=>?_⟩
  rw [hh] at hU;have hjl:=(List.getElem?_eq_some_iff.1 hj).1;rw [← ht,List.getElem?_take,if_pos (by omega)] at hj
  simpa [World.cell?,hU] using hj
section
variable {W:World} {n0 m0 B:Nat} {P:Cp} {S:Cs}
end
end
end Go.Proofs.YtjifbbdkpanagaaGreatDoor
