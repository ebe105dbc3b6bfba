/-
  Part of a proof (see the last text).
-/
import Derived.Test.YtjifbbdkpanagaaGreatDoorZd26
set_option linter.unusedVariables false
set_option linter.unusedSimpArgs false
set_option maxRecDepth 100000
namespace Go.Proofs.YtjifbbdkpanagaaGreatDoor
section
open Go.RowKit Go.Lib Go.Proofs.Tryz
def kent:List Ac→Nat→List MapEntry
 | [],_=>[]
 | x :: l,i=>⟨.string x.code,.int .i64 x.kind,i⟩ :: kent l (i+1)
def kOf:List Ac→ByteArray→Int
 | [],_=>0
 | x :: l,s=>if s=x.code then x.kind else kOf l s
theorem kent_snoc:∀ (l:List Ac) (x:Ac) (i:Nat),kent (l++[x]) i=kent l i++[⟨.string x.code,.int .i64 x.kind,i+l.length⟩]
 | [],x,i=>rfl
 | y :: l,x,i=>by
  have:=kent_snoc l x (i+1)
  simp only [List.cons_append,kent,this,List.length_cons];rw [show i+1+l.length=i+(l.length+1) by omega]
theorem bytes_ne {s r:ByteArray} (h:s≠r):(s == r)=false:=by cases hq':(s == r) with | false=>rfl | true=>exact absurd ((MapKept.bytes_beq s r).1 hq') h
theorem kent_none:∀ (l:List Ac) (s:ByteArray) (i j:Nat),(∀ x∈l,x.code≠s)→Instr.findNow .string (.string s) (kent l i) j=some none
 | [],_,_,_,_=>rfl
 | x :: l,s,i,j,h=>by
  have hne:=bytes_ne (fun e:s=x.code=>h x (by simp) e.symm)
  simp only [kent];unfold Instr.findNow;simp only [Instr.sameNow,hne];exact kent_none l s (i+1) (j+1) fun y hy=>h y (by simp [hy])
theorem kent_look:∀ (l:List Ac) (s:ByteArray) (i j:Nat),(Instr.findNow .string (.string s) (kent l i) j=some none∧kOf l s=0)∨∃ k,Instr.findNow .string (.string s) (kent l i) j=some (some (k,.int .i64 (kOf l s)))
 | [],_,_,_=>.inl ⟨rfl,rfl⟩
 | x :: l,s,i,j=>by
  simp only [kent];unfold Instr.findNow;by_cases h:s=x.code
  ·refine .inr ⟨j,?_⟩;simp only [Instr.sameNow,h,(MapKept.bytes_beq x.code x.code).2 rfl,kOf];simp
  ·have hne:=bytes_ne h;simp only [Instr.sameNow,hne,kOf,if_neg h];exact kent_look l s (i+1) (j+1)
def KMap (W:World) (mb:Nat) (l:List Ac):Prop:=W.heap[mb]? = some (.map (kent l 0).toArray l.length)
theorem run_klook {W:World} {mb:Nat} {l:List Ac} (h:KMap W mb l) (s:ByteArray):(Instr.lookup 111 (.map (some mb)) (.string s) false).run prog W=.ok (.int .i64 (kOf l s)) W:=by
 rcases kent_look l s 0 0 with ⟨f,e⟩ | ⟨k,f⟩
 ·rw [e];simp [Instr.lookup,run_underlying underlying111,MapKept.run_getObj_map h,QeA,MapKept.run_findKey underlying9 f,imap_zero,Result.andThen]
 ·simp [Instr.lookup,run_underlying underlying111,MapKept.run_getObj_map h,QeA,MapKept.run_findKey underlying9 f,Result.andThen]
theorem run_kput {W:World} {mb:Nat} {l:List Ac} (h:KMap W mb l) (x:Ac) (hs:∀ y∈l,y.code≠x.code) :
  ∃ W',(Instr.mapUpdate 111 (.map (some mb)) (.string x.code) (.int .i64 x.kind)).run prog W=.ok () W'∧KMap W' mb (l++[x])∧W.grownBy W' (some mb):=by
 have hlt:mb<W.heap.size:=(Array.getElem?_eq_some_iff.1 h).1;have f:=kent_none l x.code 0 0 hs;refine ⟨{ W with heap:=W.heap.setIfInBounds mb (.map ((kent l 0).toArray.push ⟨.string x.code,.int .i64 x.kind,l.length⟩) (l.length+1)) },?_,?_,⟨rfl,rfl,rfl,by simp,fun b _ hb=>Array.getElem?_setIfInBounds_ne (fun e=>hb (by rw [e]))⟩⟩
 ·simp [Instr.mapUpdate,run_underlying underlying111,MapKept.run_getObj_map h,QeA,MapKept.run_findKey underlying9 f,MapKept.run_setObj_map _ h,Result.andThen]
 ·unfold KMap;rw [kent_snoc];simp [hlt]
theorem make_kinds (n:Int) (w:World):(Instr.makeMap 111 (some (.int .i64 n))).run prog w=.ok (.map (some w.heap.size)) (w.alloc (.map #[] 0)):=by
 simp [Instr.makeMap,run_underlying underlying111,asInt,asIntOf,Result.andThen]
theorem kOf_take {c:List Ac} (hc:QaC c=0) {k:Nat} (hk:k<c.length):∀ y∈c.take k,y.code≠(c.getD k ac0).code:=fun y hy e=>by
 obtain ⟨j,hj,rfl⟩:=List.getElem_of_mem hy;rw [List.length_take] at hj;have e1:(c.getD j ac0)=(c.take k)[j]:=by
  rw [List.getD_eq_getElem?_getD,List.getElem?_eq_getElem (by omega),List.getElem_take]
  rfl
 rw [← e1] at e
 have:=code_inj hc (by omega) hk e
 omega
set_option maxHeartbeats 4000000 in
theorem kinds_any (a:Option Addr) (cap:Nat) (c:List Ac) (w:World) (h:Qcm w a c cap) (hc:QaC c=0) :
  Calls prog 46 #[.slice a c.length cap] w fun e w'=>∃ bm,e=.returned (.map (some bm))∧KMap w' bm c∧w.heap.size≤bm∧Below w.heap.size w w':=by
 have hmk:=make_kinds;have hlen:=Qcy hc;have hl:(c.length:Int)≤60:=by omega
 have HS:Hid (Qcm w a c cap):=h;have HD:Hid (∀ k,k<c.length→∀ y∈c.take k,y.code≠(c.getD k ac0).code):=fun k hk=>kOf_take hc hk
 have HK0:Hid (KMap (w.alloc (.map #[] 0)) w.heap.size (c.take 0)∧Below w.heap.size w (w.alloc (.map #[] 0))):=⟨World.alloc_heap_new w _,(Below.refl _ w).alloc (Nat.le_refl _) _⟩;clear h hc;go_enter func46,ntmps46
 go_wp2;go_loopw [11] (fun i wr=>∃ k:Nat,k≤c.length∧i=.int .i64 k∧Hid (KMap wr w.heap.size (c.take k)∧Below w.heap.size w wr)) (fun i _=>c.length - (RowKit.intOf i).toNat)
 case atStart=>exact ⟨0,Nat.zero_le _,rfl,HK0⟩
 case round=>
  obtain ⟨k,hk,rfl,HK⟩:=hrel;by_cases hlt:k<c.length
  ·rcases (HS.out.below HK.out.2).lies with h0 | ⟨b,off,e,hb,hcc⟩
   ·rw [h0] at hlt;simp at hlt
   subst e;have hx:=hcc k hlt;obtain ⟨x,hxe⟩:∃ x,c.getD k ac0=x:=⟨_,rfl⟩;rw [hxe] at hx;obtain ⟨wa,hwa⟩:∃ wa,wr.alloc (.cells x.cells 48)=wa:=⟨_,rfl⟩;have b1:Below wr.heap.size wr wa:=by rw [← hwa];exact (Below.refl _ wr).alloc (Nat.le_refl _) _
   have hlt2:w.heap.size<wr.heap.size:=(Array.getElem?_eq_some_iff.1 HK.out.1).1;have hka:KMap wa w.heap.size (c.take k):=(b1.block _ hlt2).trans HK.out.1;obtain ⟨W',hput,hm,hg⟩:=run_kput hka x (by rw [← hxe];exact HD.out k hlt)
   have HN:Hid (KMap W' w.heap.size (c.take (k+1))∧Below w.heap.size w W'):=by
    refine ⟨?_,?_⟩
    ·rw [List.take_add_one,List.getElem?_eq_getElem hlt];rw [List.getD_eq_getElem?_getD,List.getElem?_eq_getElem hlt] at hxe;simp only [Option.getD_some] at hxe;rw [hxe];exact hm
    ·have z:=HK.out.2.trans (b1.mono HK.out.2.size);exact z.grown hg z.size fun j e=>by cases e;exact Nat.le_refl _
   have hxa:AcAt wa wr.heap.size 0 x:=by rw [← hwa];exact AcAt.new wr x 48
   have HWa:Hid (wr.alloc (.cells x.cells 48)=wa):=hwa;have i0:(0:Int)≤k:=by omega
   have i1:(k:Int)<c.length:=by omega
   clear hcc hxe hwa b1 hka hm hg HK;obtain ⟨x0,x1,x2,x3,x4⟩:=x;obtain ⟨d0,d1,d2,d3,d4⟩:=hx;obtain ⟨f0,f1,f2,f3,f4⟩:=hxa;simp only [Ac.cells,Nat.zero_add] at d0 d1 d2 d3 d4 f0 f1 f2 f3 f4 HWa hput;go_upto_region 5 with fail
   rw [HWa.out];clear HWa d0 d1 d2 d3 d4;go_wp2;go_roundw
   case rel=>exact ⟨k+1,by omega,by go_num,HN⟩
   case measure=>simp [RowKit.intOf];omega
  ·have ek:k=c.length:=by omega
   subst ek;have h1:=HK.out;rw [List.take_length] at h1;have HE:Hid (KMap wr w.heap.size c∧Below w.heap.size w wr):=h1;have i1:¬ (c.length:Int)<c.length:=by omega
   clear h1 HK;go_wp2;go_ret;exact ⟨_,rfl,HE.out.1,Nat.le_refl _,HE.out.2⟩
section
variable {W:World} {n0 m0 B:Nat} {P:Cp} {S:Cs}
theorem make_purses (w:World):(Instr.makeMap 227 none).run prog w=.ok (.map (some w.heap.size)) (w.alloc (.map #[] 0)):=by
 simp [Instr.makeMap,run_underlying Qcc,asInt,asIntOf,Result.andThen]
end
end
section
open Go.RowKit Go.Lib Go.Proofs.Tryz
abbrev PuK:Type:=Int×ByteArray
def Bl.pur (x:Bl):PuK:=(x.ent,x.cur)
structure PuOk (k:PuK):Prop where
 ent:-9223372036854775808≤k.1∧k.1≤9223372036854775807
 cur:k.2.size≤maxLen
structure Pu where
 key:PuK
 bs:List Bl
def QgF:List Pu→Bl→List Pu
 | [],x=>[⟨x.pur,[x]⟩]
 | p :: ps,x=>if p.key=x.pur then ⟨p.key,p.bs++[x]⟩ :: ps else p :: QgF ps x
theorem blRow_nil:Qb2 []=[]:=rfl
theorem blRow_snoc (l:List Bl) (x:Bl):Qb2 (l++[x])=Qb2 l++x.cells.toList:=by simp [Qb2]
theorem pu_row:(233:TypeId)<prog.types.size:=of_decide_eq_true (by kernel_rfl)
theorem pu_wide:(match prog.underlying 233 with | some (.array _ _) | some (.struct _)=>true | _=>false)=true:=by kernel_rfl
theorem Qiv:WideMaps.KeyLaw prog 233:=deep_law_laid QiK (m:=3) (by omega) pu_row (by kernel_rfl) pu_wide
theorem pu_type:prog.keyType 233=true:=by kernel_rfl
theorem pu_cells:prog.cellsOf 233=2:=by kernel_rfl
def puV (k:PuK):Value:=.agg #[.int .i64 k.1,.string k.2]
theorem Qgz {k:PuK} (h:PuOk k):∃ kl,keyOf prog 233 (puV k)=some kl:=by
 obtain ⟨f,p⟩:=k;have hp:(Lit.int .i64 f).wf=true:=WalkArith.wf_i64 h.ent;have k1:∀ d (s:ByteArray),s.size≤maxLen→prog.keyLits (d+1) 9 [.string s]=some [.string s.data.toList]:=fun d s hs=>by
  simp [Program.keyLits,underlying9,hs]
 have k2:∀ d,prog.keyLits (d+1) 3 [.int .i64 f]=some [.int .i64 f]:=fun d=>by
  simp [Program.keyLits,underlying3,hp]
 have k3:∀ d,prog.keyLits (d+1+1) 233 [.int .i64 f,.string p]=some [.int .i64 f,.string p.data.toList]:=fun d=>by
  unfold Program.keyLits;simp [underlying233,pu_cells,ldP_str,ldP_int,k1 d p h.cur,k2 d]
 have k4:prog.types.size+1=prog.types.size - 1+1+1:=by rw [pl_types]
 unfold keyOf;rw [underlying233];simp only [pu_type,Value.formed,underlying233,puV,pu_cells,Value.cells];rw [k4,k3];exact ⟨_,rfl⟩
theorem puV_inj {k q:PuK} (h:puV k=puV q):k=q:=by
 obtain ⟨a,b⟩:=k;obtain ⟨d,e⟩:=q;simpa [puV] using h
def QaE (ps:List Pu) (vs:Nat→Value):List MapEntry:=(List.range ps.length).map fun i=>⟨puV ((ps.map Pu.key).getD i (0,ByteArray.empty)),vs i,i⟩
theorem QaB (ps:List Pu) (vs:Nat→Value):(QaE ps vs).length=ps.length:=by simp [QaE]
theorem QaW (ps:List Pu) (vs:Nat→Value) (i:Nat) (h:i<ps.length):(QaE ps vs)[i]? = some ⟨puV (ps[i]).key,vs i,i⟩:=by
 simp only [QaE,List.getElem?_map,List.getElem?_range h,Option.map_some];rw [List.getD_eq_getElem?_getD,List.getElem?_map,List.getElem?_eq_getElem h];rfl
theorem Qd1 {ps:List Pu} {vs:Nat→Value} {e:MapEntry} (h:e∈QaE ps vs):∃ i,∃ hi:i<ps.length,e=⟨puV (ps[i]).key,vs i,i⟩:=by
 obtain ⟨i,hi,e1⟩:=List.getElem_of_mem h;rw [QaB] at hi
 have:=QaW ps vs i hi
 rw [List.getElem?_eq_getElem (by rw [QaB];exact hi)] at this
 exact ⟨i,hi,by rw [← e1];exact Option.some.inj this⟩
theorem QgR (ps:List Pu) (vs:Nat→Value):(QaE ps vs).map (·.born)=List.range ps.length:=by
 simp [QaE,Function.comp_def]
theorem puEnts_set (ps:List Pu) (vs:Nat→Value) (j:Nat) (hj:j<ps.length) (zs:List Bl) (v:Value):(QaE ps vs).modify j (fun e=>{ e with val:=v })=QaE (ps.set j ⟨(ps[j]).key,zs⟩) (fun i=>if i=j then v else vs i):=by
 apply List.ext_getElem?;intro i;rw [List.getElem?_modify];by_cases hi:i<ps.length
 ·rw [QaW ps vs i hi,QaW _ _ i (by simpa using hi),List.getElem_set]
  by_cases e:j=i
  ·subst e;simp
  ·have e2:¬ i=j:=fun h=>e h.symm
   simp [e,e2]
 ·rw [List.getElem?_eq_none (by rw [QaB];omega),List.getElem?_eq_none (by rw [QaB];simp;omega)]
  rfl
theorem puEnts_push (ps:List Pu) (vs:Nat→Value) (p:Pu):QaE ps vs++[⟨puV p.key,vs ps.length,ps.length⟩]=QaE (ps++[p]) vs:=by
 apply List.ext_getElem?;intro i;by_cases hi:i<ps.length
 ·rw [List.getElem?_append_left (by rw [QaB];exact hi),QaW ps vs i hi,QaW _ _ i (by simp;omega),List.getElem_append_left hi]
 ·by_cases e:i=ps.length
  ·subst e;rw [List.getElem?_append_right (by rw [QaB];exact Nat.le_refl _),QaB,QaW _ _ _ (by simp),List.getElem_append_right (Nat.le_refl _)]
   simp
  ·rw [List.getElem?_eq_none (by simp [QaB];omega),List.getElem?_eq_none (by rw [QaB];simp;omega)]
structure PuMp (W:World) (n mb:Nat) (ps:List Pu) (vs:Nat→Value):Prop where
 map:W.heap[mb]? = some (.map (QaE ps vs).toArray ps.length)
 mbn:n≤mb
 keys:∀ p∈ps,PuOk p.key
 nodup:(ps.map Pu.key).Nodup
 rows:∀ i (hi:i<ps.length),W.ownsRow n 63 4 (vs i) (ps[i]).bs.length (Qb2 (ps[i]).bs)
 apart:∀ i j,i<ps.length→j<ps.length→i≠j→∀ g,(vs i).ownBlock=some g→(vs j).ownBlock≠some g
 fit:∀ p∈ps,∀ z∈p.bs,z.pur=p.key
theorem PuMp.below {W U:World} {n mb:Nat} {ps:List Pu} {vs:Nat→Value} (h:PuMp W n mb ps vs) (hb:Below W.heap.size W U):PuMp U n mb ps vs:=
 ⟨(hb.block mb (Array.getElem?_eq_some_iff.1 h.map).1).trans h.map,h.mbn,h.keys,h.nodup,fun i hi=>by
  rcases (h.rows i hi).2 with ⟨hv,hn⟩ | ⟨g1,c1,cur,hv,hb1,hh,r⟩
  ·exact ⟨(h.rows i hi).1,.inl ⟨hv,hn⟩⟩
  ·exact ⟨(h.rows i hi).1,.inr ⟨g1,c1,cur,hv,hb1,(hb.block g1 (Array.getElem?_eq_some_iff.1 hh).1).trans hh,r⟩⟩,h.apart,h.fit⟩
theorem QhA (x:Bl):∀ ps:List Pu,x.pur ∉ ps.map Pu.key→QgF ps x=ps++[⟨x.pur,[x]⟩]
 | [],_=>rfl
 | p :: ps,h=>by
  simp only [List.map_cons,List.mem_cons,not_or] at h;rw [QgF,if_neg (fun e=>h.1 e.symm),QhA x ps h.2]
  rfl
theorem QhK (x:Bl):∀ (ps:List Pu) (j:Nat) (hj:j<ps.length),(ps.map Pu.key).Nodup→(ps[j]).key=x.pur→QgF ps x=ps.set j ⟨(ps[j]).key,(ps[j]).bs++[x]⟩
 | p :: ps,0,_,_,e=>by
  rw [QgF,if_pos (by simpa using e)]
  rfl
 | p :: ps,j+1,hj,hn,e=>by
  simp only [List.map_cons,List.nodup_cons] at hn;have hj':j<ps.length:=by simpa using hj
  have e':(ps[j]).key=x.pur:=by simpa using e
  rw [QgF,if_neg (fun h=>hn.1 (by rw [h,← e'];exact List.mem_map.2 ⟨_,List.getElem_mem hj',rfl⟩)),QhK x ps j hj' hn.2 e']
  rfl
theorem pu_zero (w:World):(zeroValue 24).run prog w=.ok (.slice none 0 0) w:=by kernel_rfl
theorem run_puEntry {W:World} {n mb:Nat} {ps:List Pu} {vs:Nat→Value} (h:PuMp W n mb ps vs) {k:PuK} (hk:PuOk k) :
  ∃ (ps1:List Pu) (vs1:Nat→Value) (j:Nat) (hj:j<ps1.length) (W1:World),(Instr.mapEntry 227 (.map (some mb)) (puV k)).run prog W=.ok (.tuple #[vs1 j,goInt j]) W1 ∧
   PuMp W1 n mb ps1 vs1∧(ps1[j]).key=k∧Below n W W1∧W1.heap.size=W.heap.size∧(∀ i,i≠mb→W1.heap[i]? = W.heap[i]?)∧ps1.length≤ps.length+1∧(∀ p∈ps1,p∈ps∨p.bs=[]) ∧
   ∀ x:Bl,x.pur=k→QgF ps x=ps1.set j ⟨(ps1[j]).key,(ps1[j]).bs++[x]⟩:=by
 obtain ⟨kl,hkl⟩:=Qgz hk;have hlt:mb<W.heap.size:=(Array.getElem?_eq_some_iff.1 h.map).1;have hke:∀ e∈(QaE ps vs),∃ l,keyOf prog 233 e.key=some l:=fun e he=>by
  obtain ⟨i,hi,rfl⟩:=Qd1 he;exact Qgz (h.keys _ (List.getElem_mem hi))
 rcases Qiv.find W hkl (QaE ps vs) hke with ⟨h1,h2⟩ | ⟨j,e0,h1,h2,h3⟩
 ·have hno:k ∉ ps.map Pu.key:=fun hm=>by
   obtain ⟨p,hp,e⟩:=List.mem_map.1 hm;obtain ⟨i,hi,e2⟩:=List.getElem_of_mem hp
   have:=QaW ps vs i hi
   refine h2 _ (List.mem_of_getElem? this) ?_;show puV (ps[i]).key=puV k;rw [e2,e]
  have hrun:(Instr.mapEntry 227 (.map (some mb)) (puV k)).run prog W=.ok (.tuple #[.slice none 0 0,goInt ps.length]) (ChangeMaps.setBlock W mb (.map ((QaE ps vs).toArray.push ⟨puV k,.slice none 0 0,ps.length⟩) (ps.length+1))):=by
   simp [Instr.mapEntry,run_underlying Qcc,MapKept.run_getObj_map h.map,Qiv.check W false hkl,h1,pu_zero,MapKept.run_setObj_map _ h.map,Result.andThen,ChangeMaps.setBlock]
  refine ⟨ps++[⟨k,[]⟩],fun i=>if i=ps.length then .slice none 0 0 else vs i,ps.length,by simp,_,by simpa using hrun,⟨?_,h.mbn,?_,?_,?_,?_,?_⟩,by simp,Qek h.mbn _,by simp [ChangeMaps.setBlock],fun i hi=>Qar (fun e=>hi e.symm) _,by simp,?_,?_⟩
  ·rw [QbH hlt];congr 2
   ·rw [← puEnts_push];simp only [if_true];have e:QaE ps (fun i=>if i=ps.length then Value.slice none 0 0 else vs i)=QaE ps vs:=by
     unfold QaE;refine List.map_congr_left (fun i hi=>?_)
     have:i≠ps.length:=by have:=List.mem_range.1 hi;omega
     simp only [if_neg this]
    rw [e]
    try simp
   ·simp
  ·intro p hp;rcases List.mem_append.1 hp with hp | hp
   ·exact h.keys p hp
   ·rw [List.mem_singleton.1 hp];exact hk
  ·rw [List.map_append,List.nodup_append];refine ⟨h.nodup,by simp,fun a ha b hb e=>?_⟩
   simp only [List.map_cons,List.map_nil,List.mem_singleton] at hb;exact hno (by rw [← hb,← e];exact ha)
  ·intro i hi;by_cases e:i=ps.length
   ·subst e;simp only [if_true,List.getElem_append_right (Nat.le_refl _),Nat.sub_self,List.getElem_cons_zero,List.length_nil,blRow_nil];exact World.ownsRow_nil _ _ _ _
   ·have hi':i<ps.length:=by simp at hi;omega
    rw [if_neg e];simp only [List.getElem_append_left hi'];have hr:=h.rows i hi';rcases hr.2 with ⟨hv,hn⟩ | ⟨g1,c1,cur,hv,hb1,hh,r⟩
    ·exact ⟨hr.1,.inl ⟨hv,hn⟩⟩
    ·exact ⟨hr.1,.inr ⟨g1,c1,cur,hv,hb1,(Qar (fun e=>by rw [← e,h.map] at hh;cases hh) _).trans hh,r⟩⟩
  ·intro i j hi hj hij g hg;by_cases e:i=ps.length
   ·rw [if_pos e] at hg;cases hg
   ·rw [if_neg e] at hg;by_cases e2:j=ps.length
    ·rw [if_pos e2];exact fun h=>by cases h
    ·rw [if_neg e2];exact h.apart i j (by simp at hi;omega) (by simp at hj;omega) hij g hg
  ·intro p hp;rcases List.mem_append.1 hp with hp | hp
   ·exact h.fit p hp
   ·rw [List.mem_singleton.1 hp];intro z hz;simp at hz
  ·intro p hp;rcases List.mem_append.1 hp with hp | hp
   ·exact .inl hp
   ·exact .inr (by rw [List.mem_singleton.1 hp])
  ·intro x hx;rw [QhA x ps (by rw [hx];exact hno)]
   simp [hx]
 ·have hj:j<ps.length:=by have:=(List.getElem?_eq_some_iff.1 h2).1;rw [QaB] at this;exact this
  have he0:e0=⟨puV (ps[j]).key,vs j,j⟩:=by rw [QaW ps vs j hj] at h2;exact (Option.some.inj h2).symm
  have hkj:(ps[j]).key=k:=puV_inj (by rw [he0] at h3;exact h3)
  have hj':(QaE ps vs).toArray[j]? = some e0:=by simpa using h2
  have hsame:(QaE ps vs).toArray.modify j (fun e=>{ e with key:=puV k })=(QaE ps vs).toArray:=by
   apply Array.ext';rw [Array.toList_modify];apply List.ext_getElem?;intro i;rw [List.getElem?_modify];by_cases e:j=i
   ·subst e;rw [h2];simp only [if_true,he0];rw [hkj];rfl
   ·simp [e]
  have hrun:(Instr.mapEntry 227 (.map (some mb)) (puV k)).run prog W=.ok (.tuple #[vs j,goInt j]) W:=by
   have h0:(Instr.mapEntry 227 (.map (some mb)) (puV k)).run prog W=.ok (.tuple #[vs j,goInt j]) (ChangeMaps.setBlock W mb (.map (QaE ps vs).toArray ps.length)):=by
    have hst:=Qiv.stays W hkl;have hjl:(QaE ps vs)[j]? = some e0:=h2;have hso:=MapKept.run_setObj_map (P:=prog) (.map (QaE ps vs).toArray ps.length) h.map;have hsl:(QaE ps vs).modify j (fun e=>{ e with key:=puV k })=QaE ps vs:=by
     have:=congrArg Array.toList hsame
     rw [Array.toList_modify] at this;simpa using this
    simp [Instr.mapEntry,run_underlying Qcc,MapKept.run_getObj_map h.map,Qiv.check W false hkl,h1,hjl,h3,hst,hsl,hso,Result.andThen,ChangeMaps.setBlock];rw [he0];simp
   rw [Qfq h.map] at h0;exact h0
  exact ⟨ps,vs,j,hj,W,hrun,h,hkj,Below.refl _ _,rfl,fun _ _=>rfl,Nat.le_succ _,fun p hp=>.inl hp,fun x hx=>QhK x ps j hj h.nodup (by rw [hkj,hx])⟩
structure Qgj (n mb:Nat) (V W:World):Prop where
 os:W.os=V.os
 tape:W.tape=V.tape
 output:W.output=V.output
 size:V.heap.size≤W.heap.size
 block:∀ b,b<V.heap.size→b≠mb→(b<n∨∀ cs:Array Value,V.heap[b]?≠some (Obj.cells cs 63 (0,0)))→W.heap[b]? = V.heap[b]?
theorem Qgj.trans {n mb:Nat} {U V W:World} (h:Qgj n mb U V) (k:Qgj n mb V W):Qgj n mb U W:=
 ⟨k.os.trans h.os,k.tape.trans h.tape,k.output.trans h.output,Nat.le_trans h.size k.size,fun b hb hne hc=>by
  have e:=h.block b hb hne hc;exact (k.block b (Nat.lt_of_lt_of_le hb h.size) hne (hc.imp id (fun h2 cs=>by rw [e];exact h2 cs))).trans e⟩
theorem Qgj.of_below {n mb:Nat} {V W:World} (h:Below V.heap.size V W):Qgj n mb V W:=⟨h.os,h.tape,h.output,h.size,fun b hb _ _=>h.block b hb⟩
theorem Qgj.below {n mb:Nat} {V W:World} (h:Qgj n mb V W) (hm:n≤mb) (hn:n≤V.heap.size):Below n V W:=⟨h.os,h.tape,h.output,h.size,fun b hb=>h.block b (by omega) (by omega) (.inl hb)⟩
theorem run_puStore {W U:World} {n mb:Nat} {ps:List Pu} {vs:Nat→Value} (h:PuMp W n mb ps vs) {j:Nat} (hj:j<ps.length) {v':Value} {z:Bl} (hz:z.pur=(ps[j]).key)
  (ho:U.ownsRow n 63 4 v' ((ps[j]).bs.length+1) (Qb2 (ps[j]).bs++z.cells.toList)) (hg:W.grownBy U (vs j).ownBlock) (hl:v'.ownBlock=(vs j).ownBlock∨v'.ownBlock=some W.heap.size) (hn:n≤W.heap.size) :
  ∃ U',(Instr.entryStore 227 (.map (some mb)) (.int .i64 (j:Int)) v').run prog U=.ok () U'∧PuMp U' n mb (ps.set j ⟨(ps[j]).key,(ps[j]).bs++[z]⟩) (fun i=>if i=j then v' else vs i)∧Qgj n mb W U':=by
 have hnb:(vs j).ownBlock≠some mb:=fun e=>by
  obtain ⟨_,_,cs,e2⟩:=Qay (h.rows j hj) e;rw [h.map] at e2;cases e2
 have hlt:mb<W.heap.size:=(Array.getElem?_eq_some_iff.1 h.map).1;have hm:U.heap[mb]? = some (.map (QaE ps vs).toArray ps.length):=(hg.block mb hlt (fun e=>hnb e.symm)).trans h.map
 have hltU:mb<U.heap.size:=(Array.getElem?_eq_some_iff.1 hm).1;have hidx:(QaE ps vs).findIdx? (fun e=>((e.born:Nat):Int) == (j:Int))=some j:=
  WideElems.findIdx_born (e0:=⟨puV (ps[j]).key,vs j,j⟩) (by rw [QgR];exact List.nodup_range) (QaW ps vs j hj)
 have hset:=puEnts_set ps vs j hj ((ps[j]).bs++[z]) v';refine ⟨ChangeMaps.setBlock U mb (.map (QaE (ps.set j ⟨(ps[j]).key,(ps[j]).bs++[z]⟩) (fun i=>if i=j then v' else vs i)).toArray ps.length),?_,⟨?_,h.mbn,?_,?_,?_,?_,?_⟩,?_⟩
 ·simp [Instr.entryStore,MapKept.run_getObj_map hm,asInt,asIntOf,hidx,MapKept.run_setObj_map _ hm,Result.andThen,ChangeMaps.setBlock,hset]
 ·rw [QbH hltU];simp
 ·intro p hp;rcases List.mem_or_eq_of_mem_set hp with hp | rfl
  ·exact h.keys p hp
  ·have:=h.keys _ (List.getElem_mem hj)
   exact this
 ·rw [List.map_set]
  have:(ps.map Pu.key).set j (ps[j]).key=ps.map Pu.key:=by
   have e:(ps[j]).key=(ps.map Pu.key)[j]'(by simpa using hj):=by simp
   rw [e,List.set_getElem_self]
  rw [this];exact h.nodup
 ·intro i hi;have hi':i<ps.length:=by simpa using hi
  by_cases e:i=j
  ·subst e;simp only [if_true,List.getElem_set_self,List.length_append,List.length_cons,List.length_nil,blRow_snoc];refine Qd0 ho (fun g eg=>Qar (fun e2=>?_) _)
   obtain ⟨_,_,cs,e3⟩:=Qay ho eg;rw [← e2,hm] at e3;cases e3
  ·have e':¬ j=i:=fun h=>e h.symm
   simp only [if_neg e,List.getElem_set_ne e'];refine Qd0 (h.rows i hi') (fun g eg=>?_)
   obtain ⟨_,g2,cs,e3⟩:=Qay (h.rows i hi') eg;rw [Qar (fun e2=>by rw [← e2,h.map] at e3;cases e3) _]
   exact hg.block g g2 (fun e4=>h.apart i j hi' hj e g eg e4.symm)
 ·intro a b ha hb hab g eg;have ha':a<ps.length:=by simpa using ha
  have hb':b<ps.length:=by simpa using hb
  by_cases e:a=j
  ·subst e;have e2:¬ b=a:=fun h=>hab h.symm
   simp only [if_true,if_neg e2] at eg ⊢;rcases hl with hl | hl
   ·rw [hl] at eg;exact h.apart a b ha' hb' hab g eg
   ·rw [hl] at eg;cases eg;intro e3
    have:=(Qay (h.rows b hb') e3).2.1
    omega
  ·simp only [if_neg e] at eg;by_cases e2:b=j
   ·subst e2;simp only [if_true];rcases hl with hl | hl
    ·rw [hl];exact h.apart a b ha' hb' hab g eg
    ·rw [hl];intro e3;cases e3
     have:=(Qay (h.rows a ha') eg).2.1
     omega
   ·simp only [if_neg e2];exact h.apart a b ha' hb' hab g eg
 ·intro p hp;rcases List.mem_or_eq_of_mem_set hp with hp | rfl
  ·exact h.fit p hp
  ·intro y hy;rcases List.mem_append.1 hy with hy | hy
   ·exact h.fit _ (List.getElem_mem hj) y hy
   ·rw [List.mem_singleton.1 hy];exact hz
 ·refine ⟨hg.os,hg.tape,hg.output,by simpa [ChangeMaps.setBlock] using hg.size,fun b hb hne hc=>?_⟩
  rw [Qar (fun e=>hne e.symm)]
  refine hg.block b hb (fun e=>?_)
  obtain ⟨g1,_,cs,e2⟩:=Qay (h.rows j hj) e.symm;rcases hc with hc | hc
  ·omega
  ·exact hc cs e2
end
section
open Go.RowKit Go.Lib Go.Proofs.Tryz
def Qbi (c:List Ac) (x:Bl):Bool:=(kOf c x.acc == 4) || (kOf c x.acc == 5)
def erE (c:List Ac) (l:List Bl):Int:=if l.any (fun x=>Qbi c x && !QaJ x.amt)=true then 1 else 0
def erU (c:List Ac) (l:List Bl):List Pu:=(l.filter (Qbi c)).foldl QgF []
theorem erU_snoc (c:List Ac) (l:List Bl) (x:Bl):erU c (l++[x])=if Qbi c x=true then QgF (erU c l) x else erU c l:=by
 unfold erU;rw [List.filter_append,List.foldl_append];by_cases h:Qbi c x=true
 ·rw [if_pos h];simp [h]
 ·rw [if_neg h];simp [h]
theorem addU_len {m:Nat} (x:Bl):∀ (ps:List Pu),(∀ p∈ps,p.bs.length≤m)→∀ p∈QgF ps x,p.bs.length≤m+1
 | [],_,p,hp=>by
  simp only [QgF,List.mem_singleton] at hp;subst hp;simp
 | q :: ps,h,p,hp=>by
  rw [QgF] at hp;split at hp
  ·rcases List.mem_cons.1 hp with rfl | hp
   ·have:=h q (by simp)
    simp only [List.length_append,List.length_cons,List.length_nil];omega
   ·have:=h p (by simp [hp]);omega
  ·rcases List.mem_cons.1 hp with rfl | hp
   ·have:=h p (by simp);omega
   ·exact addU_len x ps (fun r hr=>h r (by simp [hr])) p hp
theorem foldU_len:∀ (l:List Bl) (ps:List Pu) (m:Nat),(∀ p∈ps,p.bs.length≤m)→∀ p∈l.foldl QgF ps,p.bs.length≤m+l.length
 | [],ps,m,h,p,hp=>by simpa using h p hp
 | x :: l,ps,m,h,p,hp=>by
  have:=foldU_len l (QgF ps x) (m+1) (addU_len x ps h) p hp
  simp only [List.length_cons];omega
theorem erU_len (c:List Ac) (l:List Bl):∀ p∈erU c l,p.bs.length≤l.length:=fun p hp=>by
 have h1:=foldU_len (l.filter (Qbi c)) [] 0 (by simp) p hp
 have h2:=List.length_filter_le (Qbi c) l;omega
theorem pu_step (x:Bl) (wa:World) (n mb:Nat) (ps:List Pu) (vs:Nat→Value) (h:PuMp wa n mb ps vs) (hk:PuOk x.pur) (hl:∀ p∈ps,p.bs.length≤1000) (V:World)
  (hV:(wa.alloc (.cells #[.int .i64 x.ent,.string x.cur] 233)).alloc (.cells x.cells 63)=V) :
  ∃ (V1:World) (v:Value) (js:Int) (zs:List Bl),(Instr.mapEntry 227 (.map (some mb)) (.agg #[.int .i64 x.ent,.string x.cur])).run prog V=.ok (.tuple #[v,.int .i64 js]) V1 ∧
   V1.ownsRow n 63 4 v zs.length (Qb2 zs)∧zs.length≤1000∧n≤V1.heap.size∧(∀ i u,x.cells.toList[i]? = some u→V1.cell? ((⟨wa.heap.size+1,0,none⟩:Addr).add i)=some u) ∧
   ∀ v' U,U.ownsRow n 63 4 v' (zs.length+1) (Qb2 zs++x.cells.toList)→V1.grownBy U v.ownBlock→(v'.ownBlock=v.ownBlock∨v'.ownBlock=some V1.heap.size) →
    ∃ U',(Instr.entryStore 227 (.map (some mb)) (.int .i64 js) v').run prog U=.ok () U'∧∃ vs',PuMp U' n mb (QgF ps x) vs'∧Qgj n mb wa U':=by
 have hn:n≤wa.heap.size:=Nat.le_of_lt (Nat.lt_of_le_of_lt h.mbn (Array.getElem?_eq_some_iff.1 h.map).1);have hbV:Below wa.heap.size wa V:=by
  rw [← hV];exact ((Below.refl _ wa).alloc (Nat.le_refl _) _).alloc (by simp) _
 have hsV:V.heap.size=wa.heap.size+2:=by rw [← hV];simp
 obtain ⟨ps1,vs1,j,hj,V1,hrun,hP1,hkey,hB1,hsz,hoth,-,hmem,hadd⟩:=run_puEntry (h.below hbV) hk;have e1:V.heap[wa.heap.size+1]? = some (.cells x.cells 63 (0,0)):=by
  rw [← hV]
  have:=Qbg (wa.alloc (.cells #[.int .i64 x.ent,.string x.cur] 233)) (.cells x.cells 63)
  simpa using this
 have e2:V1.heap[wa.heap.size+1]? = some (.cells x.cells 63 (0,0)):=(hoth _ (fun e=>by
  have:=(Array.getElem?_eq_some_iff.1 h.map).1
  omega)).trans e1
 refine ⟨V1,vs1 j,j,(ps1[j]).bs,hrun,hP1.rows j hj,?_,by omega,?_,?_⟩
 ·rcases hmem _ (List.getElem_mem hj) with hp | hp
  ·exact hl _ hp
  ·rw [hp];simp
 ·intro i u hi
  have:x.cells[i]? = some u:=by simpa using hi
  rcases i with _ | i
  ·simpa [Addr.add,World.cell?,e2] using this
  ·simpa [Addr.add,World.cell?,e2] using this
 ·intro v' U h1 h2 h3;obtain ⟨U',g1,g2,g3⟩:=run_puStore hP1 hj (z:=x) hkey.symm h1 h2 h3 (by omega)
  rw [← hadd x rfl] at g2;exact ⟨U',g1,_,g2,((Qgj.of_below hbV).trans ⟨hB1.os,hB1.tape,hB1.output,by omega,fun b _ hne _=>hoth b hne⟩).trans g3⟩
structure ErIn (W:World) (bm km:Nat) (c:List Ac) (l:List Bl) (k:Nat) (wr:World):Prop where
 mp:∃ vs,PuMp wr W.heap.size bm (erU c (l.take k)) vs
 km:KMap wr km c
 bel:Below W.heap.size W wr
 ok:∀ x∈l.take k,(Qbi c x && !QaJ x.amt)=false
def ErEnd (c:List Ac) (l:List Bl) (W:World) (e:Ending) (w':World):Prop:=
 Below W.heap.size W w'∧(erE c l≠0→e=.returned (.tuple #[.map none,.iface 66 (.int .i64 1)])) ∧
 (erE c l=0→∃ bm vs,e=.returned (.tuple #[.map (some bm),.nilIface])∧PuMp w' W.heap.size bm (erU c l) vs)
theorem ErIn.step {W wr wa U':World} {bm km:Nat} {c:List Ac} {l:List Bl} {k:Nat} (h:ErIn W bm km c l k wr) (hlt:k<l.length) (hne:km≠bm) (hbm:W.heap.size≤bm) (hwa:Below wr.heap.size wr wa) {vs:Nat→Value}
  (hE:Qbi c (l.getD k bl0)=true) (hA:QaJ (l.getD k bl0).amt=true) (hm:PuMp U' W.heap.size bm (QgF (erU c (l.take k)) (l.getD k bl0)) vs) (hk:Qgj W.heap.size bm wa U'):ErIn W bm km c l (k+1) U':=by
 have et:l.take (k+1)=l.take k++[l.getD k bl0]:=by
  rw [List.take_add_one,List.getElem?_eq_getElem hlt,List.getD_eq_getElem?_getD,List.getElem?_eq_getElem hlt];rfl
 have hka:KMap wa km c:=(hwa.block km (Array.getElem?_eq_some_iff.1 h.km).1).trans h.km;refine ⟨⟨vs,?_⟩,?_,?_,?_⟩
 ·rw [et,erU_snoc,if_pos hE];exact hm
 ·exact (hk.block km (Array.getElem?_eq_some_iff.1 hka).1 hne (.inr fun cs e=>by rw [hka] at e;cases e)).trans hka
 ·have z:=h.bel.trans (hwa.mono h.bel.size);exact z.trans (hk.below hbm z.size)
 ·intro x hx;rw [et] at hx;rcases List.mem_append.1 hx with hx | hx
  ·exact h.ok x hx
  ·rw [List.mem_singleton.1 hx,hA];simp
theorem ErIn.skip {W wr wa:World} {bm km:Nat} {c:List Ac} {l:List Bl} {k:Nat} (h:ErIn W bm km c l k wr) (hlt:k<l.length) (hwa:Below wr.heap.size wr wa) (hE:Qbi c (l.getD k bl0)=false):ErIn W bm km c l (k+1) wa:=by
 have et:l.take (k+1)=l.take k++[l.getD k bl0]:=by
  rw [List.take_add_one,List.getElem?_eq_getElem hlt,List.getD_eq_getElem?_getD,List.getElem?_eq_getElem hlt];rfl
 obtain ⟨vs,hm⟩:=h.mp;refine ⟨⟨vs,?_⟩,(hwa.block km (Array.getElem?_eq_some_iff.1 h.km).1).trans h.km,h.bel.trans (hwa.mono h.bel.size),?_⟩
 ·rw [et,erU_snoc,if_neg (by rw [hE];simp)]
  exact hm.below hwa
 ·intro x hx;rw [et] at hx;rcases List.mem_append.1 hx with hx | hx
  ·exact h.ok x hx
  ·rw [List.mem_singleton.1 hx,hE];rfl
section
variable {W:World} {n0 m0 B:Nat} {P:Cp} {S:Cs}
set_option maxHeartbeats 8000000 in
theorem earned_any (h:Qcf W n0 m0 B P S) (ok:ClOk S) (ab:Option Addr) (l:List Bl) (cab:Nat) (hl:Qcn W ab l cab) (hlen:l.length≤1000) (hok:∀ x∈l,PuOk x.pur) :
  Calls prog 146 #[.pointer (some ⟨B,0,none⟩),.slice ab l.length cab] W (ErEnd S.c l W):=by
 have k0:W.cell? ⟨B,0,none⟩=some (.slice P.ca S.c.length P.cc):=h.cell 0;have HK:Hid (Calls _ _ _ _ _):=kinds_any P.ca P.cc S.c W h.dat.ch ok.c;have hmk:=make_purses;have HL:Hid (Qcn W ab l cab):=hl;have HOk:Hid (∀ x∈l,PuOk x.pur):=hok;have hll:(l.length:Int)≤1000:=by omega
 clear h ok hl hok;go_enter func146,ntmps146
 go_wp2_with fail;refine HK.out.mono ?_;rintro e w1 ⟨km,rfl,hkm,hkl,hb1⟩;have hks:km<w1.heap.size:=(Array.getElem?_eq_some_iff.1 hkm).1;have HI0:Hid (ErIn W w1.heap.size km S.c l 0 (w1.alloc (.map #[] 0))):=by
  refine ⟨⟨fun _=>.slice none 0 0,World.alloc_heap_new w1 _,hb1.size,by simp [erU],by simp [erU],by simp [erU],by simp [erU],by simp [erU]⟩,(QaZ _ _ _ hks).trans hkm,hb1.alloc hb1.size _,by simp⟩
 have HN:Hid (km≠w1.heap.size∧W.heap.size≤w1.heap.size):=⟨by omega,hb1.size⟩
 clear HK hb1 k0 hkm hkl hks;go_wp2;go_loopw [20] (fun i wr=>∃ k:Nat,k≤l.length∧i=.int .i64 k∧Hid (ErIn W w1.heap.size km S.c l k wr)) (fun i _=>l.length - (RowKit.intOf i).toNat)
 case atStart=>exact ⟨0,Nat.zero_le _,rfl,HI0⟩
 case round=>
  obtain ⟨k,hk,rfl,HI⟩:=hrel;clear HI0;by_cases hlt:k<l.length
  ·rcases (HL.out.below HI.out.bel).lies with h0 | ⟨b,off,e,hb,hcc⟩
   ·rw [h0] at hlt;simp at hlt
   subst e;have hx:=hcc k hlt;obtain ⟨wa,hwa⟩:∃ wa,wr.alloc (.cells (l.getD k bl0).cells 63)=wa:=⟨_,rfl⟩;have b1:Below wr.heap.size wr wa:=by rw [← hwa];exact (Below.refl _ wr).alloc (Nat.le_refl _) _
   obtain ⟨vs,hmp⟩:=HI.out.mp;have hxm:l.getD k bl0∈l:=by rw [List.getD_eq_getElem?_getD,List.getElem?_eq_getElem hlt];exact List.getElem_mem hlt
   obtain ⟨V,hV⟩:∃ V,(wa.alloc (.cells #[.int .i64 (l.getD k bl0).ent,.string (l.getD k bl0).cur] 233)).alloc (.cells (l.getD k bl0).cells 63)=V:=⟨_,rfl⟩;obtain ⟨V1,v,js,zs,hrun,hown,hzl,hnV,hnews,hst⟩:=pu_step (l.getD k bl0) wa W.heap.size w1.heap.size _ vs (hmp.below b1) (HOk.out _ hxm) (fun p hp=>by have:=erU_len _ _ p hp;rw [List.length_take] at this;omega) V hV
   have HStep:Hid (Qbi S.c (l.getD k bl0)=true→QaJ (l.getD k bl0).amt=true→∀ v' U,U.ownsRow W.heap.size 63 4 v' (zs.length+1) (Qb2 zs++(l.getD k bl0).cells.toList)→V1.grownBy U v.ownBlock→(v'.ownBlock=v.ownBlock∨v'.ownBlock=some V1.heap.size) →
     ∃ U',(Instr.entryStore 227 (.map (some w1.heap.size)) (.int .i64 js) v').run prog U=.ok () U'∧Hid (ErIn W w1.heap.size km S.c l (k+1) U')):=fun hE hA v' U h1 h2 h3=>by
    obtain ⟨U',g1,vs',g2,g3⟩:=hst v' U h1 h2 h3;exact ⟨U',g1,HI.out.step hlt HN.out.1 HN.out.2 b1 hE hA g2 g3⟩
   have HSkip:Hid (Qbi S.c (l.getD k bl0)=false→ErIn W w1.heap.size km S.c l (k+1) wa):=fun hE=>HI.out.skip hlt b1 hE
   have HBad:Hid (Qbi S.c (l.getD k bl0)=true→QaJ (l.getD k bl0).amt=false→ErEnd S.c l W (.returned (.tuple #[.map none,.iface 66 (.int .i64 1)])) wa):=fun hE hA=>by
    have e1:erE S.c l=1:=by
     unfold erE;rw [if_pos];exact List.any_eq_true.2 ⟨_,hxm,by rw [hE,hA];rfl⟩
    exact ⟨HI.out.bel.trans (b1.mono HI.out.bel.size),fun _=>rfl,fun h=>by rw [e1] at h;exact absurd h (by decide)⟩
   have hlk:=run_klook ((b1.block km (Array.getElem?_eq_some_iff.1 HI.out.km).1).trans HI.out.km) (l.getD k bl0).acc;have hwn:wa.heap[wr.heap.size]? = some (.cells (l.getD k bl0).cells 63 (0,0)):=by rw [← hwa];exact World.alloc_heap_new wr _
   have HEa:Hid (Qbi S.c (l.getD k bl0)=((kOf S.c (l.getD k bl0).acc == 4) || (kOf S.c (l.getD k bl0).acc == 5))):=rfl;have HWa:Hid (wr.alloc (.cells (l.getD k bl0).cells 63)=wa):=hwa;have HO:Hid (V1.ownsRow W.heap.size 63 4 v zs.length (Qb2 zs)):=hown;have HNw:Hid (∀ i u,(l.getD k bl0).cells.toList[i]? = some u→V1.cell? ((⟨wa.heap.size+1,0,none⟩:Addr).add i)=some u):=hnews;have HS:Hid (W.heap.size≤V1.heap.size):=hnV
   have Hm1:Hid (zs.length+1≤maxLen):=by unfold Hid maxLen;omega
   have Hm2:Hid ((zs.length+1)*48≤140737488355328):=by unfold Hid;omega
   have i0:(0:Int)≤k:=by omega
   have i1:(k:Int)<l.length:=by omega
   generalize Qbi S.c (l.getD k bl0)=bE at *
   generalize hz:kOf S.c (l.getD k bl0).acc=z at *
   clear hz hst hmp hcc hxm hwa b1 hown hnews hnV hzl HI;generalize l.getD k bl0=x at *
   obtain ⟨x0,x1,x2,x3⟩:=x;obtain ⟨d0,d1,d2,d3⟩:=hx;have f0:wa.cell? ⟨wr.heap.size,0,none⟩=some (.int .i64 x0):=by simp [World.cell?,hwn,Bl.cells]
   have f1:wa.cell? ⟨wr.heap.size,1,none⟩=some (.string x1):=by simp [World.cell?,hwn,Bl.cells]
   have f2:wa.cell? ⟨wr.heap.size,2,none⟩=some (.string x2):=by simp [World.cell?,hwn,Bl.cells]
   have f3:wa.cell? ⟨wr.heap.size,3,none⟩=some (.int .i64 x3):=by simp [World.cell?,hwn,Bl.cells]
   have hwl:wr.heap.size<wa.heap.size:=(Array.getElem?_eq_some_iff.1 hwn).1;simp only [Bl.cells] at hV HStep HSkip HBad HNw HWa hlk hrun d0 d1 d2 d3;have Hs1:Hid (∀ u∈[Value.int .i64 x0,.string x1,.string x2,.int .i64 x3],u.oneCell'=true):=by intro u hu;simp at hu;rcases hu with rfl | rfl | rfl | rfl <;> rfl
   have HAm:Hid (∀ U,Calls prog 120 #[.int .i64 x3] U fun e w'=>e=.returned (.bool (QaJ x3))∧w'=U):=QcL x3
   obtain ⟨q0,hq0,hz0,hz1,hz2⟩:=info_parts bl_info;clear hwn;go_upto_region 6 with fail
   rw [HWa.out];clear HWa d0 d1 d2 d3;by_cases g4:z=4
   ·subst g4;have hE:bE=true:=by rw [HEa.out];rfl
    have HBad2:Hid _:=HBad.out hE;have HStep2:Hid _:=HStep.out hE;clear HSkip HEa HBad HStep;go_wp2_with fail;refine (HAm.out _).mono ?_;rintro e w' ⟨rfl,hw⟩;rw [hw];clear hw w' HAm;cases gA:QaJ x3
    ·have HB:Hid (ErEnd _ _ _ _ _):=HBad2.out gA;clear HBad2 HStep2 hrun;go_wp2;go_ret2;exact HB.out
    ·have HE:Hid (∀ (v':Value) (U:World),_):=HStep2.out gA;clear HStep2 HBad2;subst hV;go_wp2_with (at_builtin;refine wpList_append_own_at _ rfl _ _ 24 rfl W.heap.size 63 q0 (.agg #[.int .i64 0,.string ByteArray.empty,.string ByteArray.empty,.int .i64 0]) 4 48 underlying24 hq0 hz0 hz1 hz2 rfl (by decide) _ _ _ rfl HO.out ⟨wa.heap.size+1,0,none⟩ 1 1 [.int .i64 x0,.string x1,.string x2,.int .i64 x3] rfl rfl HNw.out Hs1.out Hm1.out Hm2.out HS.out ?_)
     intro v' U h1 h2 _ h3;obtain ⟨U',g1,g2⟩:=HE.out v' U h1 h2 h3;clear h1 h2 h3 HE hrun;go_wp2;go_roundw
     case rel=>exact ⟨k+1,by omega,by go_num,g2⟩
     case measure=>simp [RowKit.intOf];omega
   have g4':(z == 4)=false:=by rw [beq_eq_false_iff_ne];exact g4
   by_cases g5:z=5
   ·subst g5;have hE:bE=true:=by rw [HEa.out];rfl
    have HBad2:Hid _:=HBad.out hE;have HStep2:Hid _:=HStep.out hE;clear HSkip HEa HBad HStep;go_wp2_with fail;refine (HAm.out _).mono ?_;rintro e w' ⟨rfl,hw⟩;rw [hw];clear hw w' HAm;cases gA:QaJ x3
    ·have HB:Hid (ErEnd _ _ _ _ _):=HBad2.out gA;clear HBad2 HStep2 hrun;go_wp2;go_ret2;exact HB.out
    ·have HE:Hid (∀ (v':Value) (U:World),_):=HStep2.out gA;clear HStep2 HBad2;subst hV;go_wp2_with (at_builtin;refine wpList_append_own_at _ rfl _ _ 24 rfl W.heap.size 63 q0 (.agg #[.int .i64 0,.string ByteArray.empty,.string ByteArray.empty,.int .i64 0]) 4 48 underlying24 hq0 hz0 hz1 hz2 rfl (by decide) _ _ _ rfl HO.out ⟨wa.heap.size+1,0,none⟩ 1 1 [.int .i64 x0,.string x1,.string x2,.int .i64 x3] rfl rfl HNw.out Hs1.out Hm1.out Hm2.out HS.out ?_)
     intro v' U h1 h2 _ h3;obtain ⟨U',g1,g2⟩:=HE.out v' U h1 h2 h3;clear h1 h2 h3 HE hrun;go_wp2;go_roundw
     case rel=>exact ⟨k+1,by omega,by go_num,g2⟩
     case measure=>simp [RowKit.intOf];omega
   have g5':(z == 5)=false:=by rw [beq_eq_false_iff_ne];exact g5
   have HN2:Hid (ErIn W w1.heap.size km S.c l (k+1) wa):=HSkip.out (by rw [HEa.out,g4',g5'];rfl)
   have g4n:(z != 4)=true:=by simp [g4]
   have g5n:(z != 5)=true:=by simp [g5]
   clear HSkip HEa HStep HBad hrun;go_wp2;go_roundw
   case rel=>exact ⟨k+1,by omega,by go_num,HN2⟩
   case measure=>simp [RowKit.intOf];omega
  ·have ek:k=l.length:=by omega
   subst ek;obtain ⟨vs,hm⟩:=HI.out.mp;rw [List.take_length] at hm;have h2:=HI.out.ok;rw [List.take_length] at h2;have e0:erE S.c l=0:=by
    unfold erE;rw [if_neg];intro ha;obtain ⟨x,hx,e⟩:=List.any_eq_true.1 ha;rw [h2 x hx] at e;cases e
   have HE:Hid (ErEnd S.c l W (.returned (.tuple #[.map (some w1.heap.size),.nilIface])) wr):=⟨HI.out.bel,fun h=>absurd e0 h,fun _=>⟨_,vs,rfl,hm⟩⟩
   have i1:¬ (l.length:Int)<l.length:=by omega
   clear h2 hm HI e0;go_wp2;go_ret2;exact HE.out
end
end
end Go.Proofs.YtjifbbdkpanagaaGreatDoor
