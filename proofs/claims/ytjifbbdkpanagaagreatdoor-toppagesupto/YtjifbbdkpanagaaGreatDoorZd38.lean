/-
  Part of a proof (see the last text).
-/
import Derived.Test.YtjifbbdkpanagaaGreatDoorZd37
import Derived.Laws.AppendOwnNone
import Derived.Lib.SlBytesConst
set_option linter.unusedVariables false
set_option linter.unusedSimpArgs false
set_option maxRecDepth 100000
namespace Go.Proofs.YtjifbbdkpanagaaGreatDoor
section
open Go.RowKit Go.Lib Go.Proofs.Tryz
structure Hd where
 blk:Nat
 turn:UInt8
 ver:Nat
 whr:List UInt8
def hd0:Hd:=⟨0,0,0,List.replicate 40 0⟩
structure Hd.ok (h:Hd):Prop where
 b:h.blk≤1
 v:h.ver≤1000000
 w:h.whr.length=40
theorem Qb5:hd0.ok:=⟨by decide,by decide,by decide⟩
def Hd.cells (h:Hd):List Value:=.int .i64 (h.blk:Int) :: .int .u8 (h.turn.toNat:Int) :: .int .i64 (h.ver:Int) :: byC h.whr
theorem Hd.cells_length {h:Hd} (k:h.ok):h.cells.length=43:=by simp [Hd.cells,Qaf,k.w]
theorem Hd.cells_one (h:Hd):∀ u∈h.cells,u.oneCell'=true:=by
 intro u hu;simp only [Hd.cells,List.mem_cons] at hu;rcases hu with rfl | rfl | rfl | hu
 ·rfl
 ·rfl
 ·rfl
 ·exact QfI _ u hu
theorem QbT:(prog.info? 80).map (·.size)=some 43:=by kernel_rfl
theorem head_zero:(prog.info? 80).map (·.zero)=some (some (.agg hd0.cells.toArray)):=by kernel_rfl
theorem Qb1 (w:World):(Instr.alloc 80 true (.tuple #[])).run prog w=.ok (.pointer (some ⟨w.heap.size,0,none⟩)) (w.alloc (.cells hd0.cells.toArray 80)):=by
 cases hq:prog.info? 80 with
 | none=>have:=head_zero;simp [hq] at this
 | some q=>
  have hz:q.zero=some (.agg hd0.cells.toArray):=by have:=head_zero;simpa [hq] using this
  simp [Instr.alloc,zeroValue,typeInfo,hq,hz,newVar,newRow,Value.cells]
theorem Qip (i:Nat) (t:UInt8) (w:World):(Instr.build 80 #[(0,.int .i64 (i:Int)),(1,.int .u8 (t.toNat:Int))]).run prog w=.ok (.agg (Hd.mk i t 0 (List.replicate 40 0)).cells.toArray) w:=by
 refine run_build w 80 _ _ ?_
 kernel_rfl
theorem QhQ (w:World):(Instr.build 80 #[]).run prog w=.ok (.agg hd0.cells.toArray) w:=by
 refine run_build w 80 _ _ ?_
 kernel_rfl
theorem Qa5 {u:World} {B o:Nat} {h:Hd} (k:h.ok) (hr:u.rangeAt B o h.cells):(Instr.loadAt 80 (.pointer (some ⟨B,o,none⟩))).run prog u=.ok (.agg h.cells.toArray) u:=
 run_loadAt_mid u B o 80 _ _ hr underlying80 rfl (by rw [Hd.cells_length k];exact QbT)
theorem QdG {u:World} {B:Nat} {l:List Value} {t:TypeId} (h:u.heap[B]? = some (.cells l.toArray t (0,0))):u.rangeAt B 0 l:=by
 intro j v hv;rw [cell_of_row u B _ _ t (0,0) h];simpa using hv
theorem QiH {u:World} {B o:Nat} {h:Hd} (k:h.ok) {cs:List Value} {t:TypeId} (hb:u.heap[B]? = some (.cells cs.toArray t (0,0))) (hs:o+43≤cs.length) :
  (Instr.storeAt 80 (.pointer (some ⟨B,o,none⟩)) (.agg h.cells.toArray)).run prog u=.ok () (u.setRow B (cs.take o++h.cells++cs.drop (o+43)).toArray):=by
 have:=run_storeCells_at prog B o t h.cells 0 cs.toArray u hb (by rw [Hd.cells_length k,List.size_toArray];omega) h.cells_one
 rw [Nat.add_zero,Hd.cells_length k] at this
 cases hq:prog.info? 80 with
 | none=>have:=QbT;simp [hq] at this
 | some q=>
  have hs:q.size=43:=by have:=QbT;simpa [hq] using this
  simp [Instr.storeAt,Instr.sureAddr,storeVar,sizeOf,typeInfo,hq,Value.cells,hs,Hd.cells_length k,this]
structure Qax (lo:Nat) (T:List TypeId) (V W:World):Prop where
 os:W.os=V.os
 tape:W.tape=V.tape
 output:W.output=V.output
 size:V.heap.size≤W.heap.size
 block:∀ b,b<V.heap.size→(b<lo∨∃ cs t fr,V.heap[b]? = some (.cells cs t fr)∧t ∉ T)→W.heap[b]? = V.heap[b]?
section
variable {lo:Nat} {T:List TypeId} {U V W:World}
theorem Qax.refl (lo:Nat) (T:List TypeId) (V:World):Qax lo T V V:=⟨rfl,rfl,rfl,Nat.le_refl _,fun _ _ _=>rfl⟩
theorem Qax.trans (h:Qax lo T U V) (k:Qax lo T V W):Qax lo T U W:=
 ⟨k.os.trans h.os,k.tape.trans h.tape,k.output.trans h.output,Nat.le_trans h.size k.size,fun b hb hc=>by
  have e:=h.block b hb hc;refine (k.block b (Nat.lt_of_lt_of_le hb h.size) ?_).trans e;rcases hc with hc | ⟨cs,t,fr,h1,h2⟩
  ·exact .inl hc
  ·exact .inr ⟨cs,t,fr,e.trans h1,h2⟩⟩
theorem Qax.of_keeps {T':List TypeId} (h:Qan lo T' V W) (hT:∀ t∈T',t∈T):Qax lo T V W:=
 ⟨h.os,h.tape,h.output,h.size,fun b hb hc=>h.block b hb (by
  rcases hc with hc | ⟨cs,t,fr,h1,h2⟩
  ·exact .inl hc
  ·refine .inr fun cs' t' fr' h3 h4=>?_
   rw [h1] at h3;cases h3;exact h2 (hT _ h4))⟩
theorem Qax.of_below (h:Below V.heap.size V W):Qax lo T V W:=⟨h.os,h.tape,h.output,h.size,fun b hb _=>h.block b hb⟩
theorem Qax.row {b:Nat} {cs:Array Value} {t:TypeId} {fr:Nat×Nat} (h:Qax lo T V W) (hb:V.heap[b]? = some (.cells cs t fr)) (ht:t ∉ T):W.heap[b]? = some (.cells cs t fr):=
 (h.block b (Array.getElem?_eq_some_iff.1 hb).1 (.inr ⟨cs,t,fr,hb,ht⟩)).trans hb
theorem Qax.below (h:Qax lo T V W) (hl:lo≤V.heap.size):Below lo V W:=⟨h.os,h.tape,h.output,h.size,fun b hb=>h.block b (by omega) (.inl hb)⟩
theorem Qax.setCell {b o:Nat} {cs:Array Value} {t:TypeId} {fr:Nat×Nat} (h:Qax lo T V W) (hb:W.heap[b]? = some (.cells cs t fr)) (ht:t∈T) (hl:lo≤b) (v:Value):Qax lo T V (W.setCell ⟨b,o,none⟩ v):=
 h.trans ⟨rfl,rfl,rfl,by simp [World.setCell],fun k hk hc=>Below.heap_setCell _ _ _ _ (fun e=>by
  simp only at e;subst e;rcases hc with hc | ⟨cs',t',fr',h1,h2⟩
  ·omega
  ·rw [hb] at h1;cases h1;exact h2 ht)⟩
theorem Qax.setRow {b:Nat} {cs:Array Value} {t:TypeId} {fr:Nat×Nat} (h:Qax lo T V W) (hb:W.heap[b]? = some (.cells cs t fr)) (ht:t∈T) (hl:lo≤b) (cs':Array Value):Qax lo T V (W.setRow b cs'):=
 h.trans ⟨rfl,rfl,rfl,by simp,fun k hk hc=>setRow_other _ _ _ _ (fun e=>by
  subst e;rcases hc with hc | ⟨cs',t',fr',h1,h2⟩
  ·omega
  ·rw [hb] at h1;cases h1;exact h2 ht)⟩
theorem Qax.setMap {b:Nat} {es:Array MapEntry} {c:Nat} (h:Qax lo T V W) (hb:W.heap[b]? = some (.map es c)) (hl:lo≤b) (o:Obj):Qax lo T V { W with heap:=W.heap.setIfInBounds b o }:=
 h.trans ⟨rfl,rfl,rfl,by simp,fun k hk hc=>by
  show (W.heap.setIfInBounds b o)[k]? = W.heap[k]?;refine Array.getElem?_setIfInBounds_ne ?_;intro e;subst e;rcases hc with hc | ⟨cs',t',fr',h1,h2⟩
  ·omega
  ·rw [hb] at h1;cases h1⟩
end
def stT:List TypeId:=[76,95,97,85,80]
theorem dk_st:∀ t∈dkT,t∈stT:=by decide
def QdA (W:World) (v:Value) (l:List UInt8):Prop:=∃ a cap,v=.slice a l.length cap∧l.length≤cap∧(a=none→cap=0)∧(l=[]∨∃ b off cs,a=some ⟨b,off,none⟩∧W.heap[b]? = some (.cells cs 5 (0,0))∧∀ k (h:k<l.length),cs[off+k]? = some (.int .u8 (l[k]'h).toNat))
theorem QdA.isBy {W:World} {v:Value} {l:List UInt8} (h:QdA W v l):∃ a cap,v=.slice a l.length cap∧(cap=0∨a≠none)∧QcT W a l cap:=by
 obtain ⟨a,cap,rfl,hc,hn,h⟩:=h;refine ⟨a,cap,rfl,?_,hc,?_⟩
 ·by_cases e:a=none
  ·exact .inl (hn e)
  ·exact .inr e
 rcases h with h | ⟨b,off,cs,e,hb,hk⟩
 ·exact .inl h
 ·refine .inr ⟨b,off,e,(Array.getElem?_eq_some_iff.1 hb).1,fun k h=>?_⟩
  rw [cell_of_row W b _ _ _ (0,0) hb];exact hk k h
theorem QdA.keep {lo:Nat} {V W:World} {v:Value} {l:List UInt8} (h:QdA V v l) (hk:Qax lo stT V W):QdA W v l:=by
 obtain ⟨a,cap,e,hc,hn,h⟩:=h;refine ⟨a,cap,e,hc,hn,?_⟩;rcases h with h | ⟨b,off,cs,e,hb,hx⟩
 ·exact .inl h
 ·exact .inr ⟨b,off,cs,e,hk.row hb (by decide),hx⟩
theorem QdA.of_row {W:World} {n:Nat} {v:Value} {l:List UInt8} (h:Qaq W n v l):QdA W v l:=by
 obtain ⟨hlen,⟨rfl,h0⟩ | ⟨g,cap,cur,rfl,hb,hg,hc,hm,hs,ht⟩⟩:=h
 ·have:l=[]:=List.eq_nil_of_length_eq_zero h0
  subst this;exact ⟨none,0,rfl,Nat.le_refl _,fun _=>rfl,.inl rfl⟩
 ·refine ⟨_,cap,rfl,hc,(fun e=>by cases e),.inr ⟨g,0,cur,rfl,hg,fun k hk=>?_⟩⟩
  have e1:(byC l)[k]? = cur[k]?:=by
   rw [← ht,List.getElem?_take,if_pos (by omega)]
   simp
  rw [Nat.zero_add,← Qb0 l k hk,e1]
def QeQ (W:World):List MapEntry→List (Nat×List UInt8)→Prop
 | [],[]=>True
 | e :: es,kl :: P=>(e.key=.int .i64 (kl.1:Int)∧QdA W e.val kl.2)∧QeQ W es P
 | [],_ :: _=>False
 | _ :: _,[]=>False
theorem QeQ.nil {W:World}:QeQ W [] []:=True.intro
theorem QeQ.cons {W:World} {e:MapEntry} {es:List MapEntry} {k:Nat} {l:List UInt8} {P:List (Nat×List UInt8)} (h1:e.key=.int .i64 (k:Int)) (h2:QdA W e.val l) (h3:QeQ W es P):QeQ W (e :: es) ((k,l) :: P):=⟨⟨h1,h2⟩,h3⟩
theorem QeQ.ind {W:World} {motive:(es:List MapEntry)→(P:List (Nat×List UInt8))→QeQ W es P→Prop} (nil:motive [] [] QeQ.nil)
  (cons:∀ {e:MapEntry} {es:List MapEntry} {k:Nat} {l:List UInt8} {P:List (Nat×List UInt8)} (h1:e.key=.int .i64 (k:Int)) (h2:QdA W e.val l) (h3:QeQ W es P),motive es P h3→motive (e :: es) ((k,l) :: P) (QeQ.cons h1 h2 h3)) :
  ∀ {es:List MapEntry} {P:List (Nat×List UInt8)} (h:QeQ W es P),motive es P h
 | [],[],_=>nil
 | _ :: _,(_,_) :: _,h=>cons h.1.1 h.1.2 h.2 (QeQ.ind nil cons h.2)
 | [],_ :: _,h=>h.elim
 | _ :: _,[],h=>h.elim
theorem QeQ.keep {lo:Nat} {V W:World} {es:List MapEntry} {P:List (Nat×List UInt8)} (h:QeQ V es P) (hk:Qax lo stT V W):QeQ W es P:=by
 induction h using QeQ.ind with
 | nil=>exact .nil
 | cons h1 h2 _ ih=>exact .cons h1 (h2.keep hk) ih
theorem QeQ.length {W:World} {es:List MapEntry} {P:List (Nat×List UInt8)} (h:QeQ W es P):es.length=P.length:=by
 induction h using QeQ.ind with
 | nil=>rfl
 | cons _ _ _ ih=>simp [ih]
def look:List (Nat×List UInt8)→Nat→Option (List UInt8)
 | [],_=>none
 | (k',l) :: P,k=>if k'=k then some l else look P k
def upd:List (Nat×List UInt8)→Nat→List UInt8→List (Nat×List UInt8)
 | [],k,l=>[(k,l)]
 | (k',l') :: P,k,l=>if k'=k then (k,l) :: P else (k',l') :: upd P k l
theorem look_upd (P:List (Nat×List UInt8)) (k j:Nat) (l:List UInt8):look (upd P k l) j=if k=j then some l else look P j:=by
 induction P with
 | nil=>simp [upd,look]
 | cons x P ih=>
  obtain ⟨k',l'⟩:=x;unfold upd;by_cases h:k'=k
  ·subst h;simp only [if_true,look];by_cases h2:k'=j
   ·simp [h2]
   ·simp [h2]
  ·rw [if_neg h];unfold look;rw [ih];by_cases h2:k'=j
   ·rw [if_pos h2,if_pos h2,if_neg (by omega)]
   ·rw [if_neg h2,if_neg h2]
theorem find_none {W:World} {es:List MapEntry} {P:List (Nat×List UInt8)} (h:QeQ W es P) (k:Nat) (hn:look P k=none):∀ i,Instr.findNow (.int .i64) (.int .i64 (k:Int)) es i=some none:=by
 induction h using QeQ.ind with
 | nil=>intro i;rfl
 | @cons e es k' l P h1 h2 h3 ih=>
  intro i;unfold look at hn;by_cases hk:k'=k
  ·rw [if_pos hk] at hn;cases hn
  ·rw [if_neg hk] at hn;unfold Instr.findNow;have hne:((k:Int) == (k':Int))=false:=by rw [beq_eq_false_iff_ne];omega
   simp only [h1,Instr.sameNow,if_true,hne];exact ih hn _
theorem find_some {W:World} {es:List MapEntry} {P:List (Nat×List UInt8)} (h:QeQ W es P) (k:Nat) {l:List UInt8} (hn:look P k=some l):∃ j v,(∀ i,Instr.findNow (.int .i64) (.int .i64 (k:Int)) es i=some (some (i+j,v)))∧QdA W v l∧(∃ e,es[j]? = some e∧e.key=.int .i64 (k:Int)) ∧
  ∀ (l':List UInt8) (v':Value) (b:Nat→Nat),QdA W v' l'→QeQ W (es.set j ⟨.int .i64 (k:Int),v',(es[j]?.map (·.born)).getD 0⟩) (upd P k l'):=by
 induction h using QeQ.ind with
 | nil=>cases hn
 | @cons e es k' l0 P h1 h2 h3 ih=>
  unfold look at hn;by_cases hk:k'=k
  ·rw [if_pos hk] at hn;cases hn;subst hk;refine ⟨0,e.val,fun i=>?_,h2,⟨e,rfl,h1⟩,fun l' v' b hv=>?_⟩
   ·unfold Instr.findNow;simp [h1,Instr.sameNow]
   ·unfold upd;rw [if_pos rfl];exact .cons rfl hv h3
  ·rw [if_neg hk] at hn;obtain ⟨j,v,f1,f2,f3,f4⟩:=ih hn;refine ⟨j+1,v,fun i=>?_,f2,by simpa using f3,fun l' v' b hv=>?_⟩
   ·unfold Instr.findNow;have hne:((k:Int) == (k':Int))=false:=by rw [beq_eq_false_iff_ne];omega
    simp only [h1,Instr.sameNow,if_true,hne];rw [f1 (i+1)];congr 3;omega
   ·unfold upd;rw [if_neg hk]
    have:=f4 l' v' b hv
    simpa using QeQ.cons h1 h2 this
theorem QeQ.push {W:World} {es:List MapEntry} {P:List (Nat×List UInt8)} (h:QeQ W es P) (k:Nat) (hn:look P k=none) (v:Value) (l:List UInt8) (c:Nat) (hv:QdA W v l):QeQ W (es++[⟨.int .i64 (k:Int),v,c⟩]) (upd P k l):=by
 induction h using QeQ.ind with
 | nil=>exact .cons rfl hv .nil
 | @cons e es k' l0 P h1 h2 h3 ih=>
  unfold look at hn;by_cases hk:k'=k
  ·rw [if_pos hk] at hn;cases hn
  ·rw [if_neg hk] at hn;unfold upd;rw [if_neg hk];exact .cons h1 h2 (ih hn)
def PMap (W:World) (mb:Nat) (P:List (Nat×List UInt8)):Prop:=∃ es c,W.heap[mb]? = some (.map es c)∧QeQ W es.toList P
theorem PMap.keep {lo:Nat} {V W:World} {mb:Nat} {P:List (Nat×List UInt8)} (h:PMap V mb P) (hk:Qax lo stT V W) (hm:W.heap[mb]? = V.heap[mb]?):PMap W mb P:=by
 obtain ⟨es,c,h1,h2⟩:=h;exact ⟨es,c,hm.trans h1,h2.keep hk⟩
theorem set_at {W:World} {mb:Nat} (h:mb<W.heap.size) (o:Obj):({ W with heap:=W.heap.setIfInBounds mb o }:World).heap[mb]? = some o:=by simp [h]
theorem key_ok (w:World) (x:Int) (b:Bool):(Instr.checkKey b 10000 3 (.int .i64 x)).run prog w=.ok () w:=
 MapKept.run_checkKey (k:=.int .i64 x) underlying3 (by simp [MapKept.IsKey]) b 9999
theorem sl_zero (w:World):(zeroValue 29).run prog w=.ok (.slice none 0 0) w:=by kernel_rfl
theorem run_look {W:World} {mb:Nat} {P:List (Nat×List UInt8)} (h:PMap W mb P) (k:Nat):∃ v,(Instr.lookup 83 (.map (some mb)) (.int .i64 (k:Int)) true).run prog W=.ok (.tuple #[v,.bool (look P k).isSome]) W∧QdA W v ((look P k).getD [])∧(look P k=none→v=.slice none 0 0):=by
 obtain ⟨es,c,h1,h2⟩:=h
 cases hq:look P k with
 | none=>
  refine ⟨.slice none 0 0,?_,⟨none,0,rfl,Nat.le_refl _,fun _=>rfl,.inl rfl⟩,fun _=>rfl⟩
  simp [Instr.lookup,run_underlying underlying83,MapKept.run_getObj_map h1,key_ok,MapKept.run_findKey underlying3 (find_none h2 k hq 0),sl_zero,Result.andThen]
 | some l=>
  obtain ⟨j,v,f1,f2,f3,f4⟩:=find_some h2 k hq;refine ⟨v,?_,f2,fun e=>by cases e⟩
  simp [Instr.lookup,run_underlying underlying83,MapKept.run_getObj_map h1,key_ok,MapKept.run_findKey underlying3 (f1 0),Result.andThen]
theorem run_put {W:World} {mb:Nat} {P:List (Nat×List UInt8)} (h:PMap W mb P) (k:Nat) (v:Value) (l:List UInt8) (hv:QdA W v l) (lo:Nat) (hl:lo≤mb) :
  ∃ W',(Instr.mapUpdate 83 (.map (some mb)) (.int .i64 (k:Int)) v).run prog W=.ok () W'∧PMap W' mb (upd P k l)∧Qax lo stT W W'∧∀ b,b≠mb→W'.heap[b]? = W.heap[b]?:=by
 obtain ⟨es,c,h1,h2⟩:=h;have hlt:mb<W.heap.size:=(Array.getElem?_eq_some_iff.1 h1).1
 cases hq:look P k with
 | none=>
  refine ⟨{ W with heap:=W.heap.setIfInBounds mb (.map (es.push ⟨.int .i64 (k:Int),v,c⟩) (c+1)) },?_,?_,(Qax.refl lo stT W).setMap h1 hl _,fun b hb=>Array.getElem?_setIfInBounds_ne (fun e=>hb e.symm)⟩
  ·simp [Instr.mapUpdate,run_underlying underlying83,MapKept.run_getObj_map h1,key_ok,MapKept.run_findKey underlying3 (find_none h2 k hq 0),MapKept.run_setObj_map _ h1,Result.andThen]
  ·refine ⟨_,_,set_at hlt _,?_⟩
   have:=(h2.push k hq v l c hv).keep ((Qax.refl lo stT W).setMap h1 hl (.map (es.push ⟨.int .i64 (k:Int),v,c⟩) (c+1)))
   simpa using this
 | some l0=>
  obtain ⟨j,v0,f1,f2,⟨e,f3,f5⟩,f4⟩:=find_some h2 k hq;have hj:j<es.size:=by have:=(List.getElem?_eq_some_iff.1 f3).1;simpa using this
  have he:es[j]? = some e:=by simpa using f3
  have hmod:(es.modify j fun e=>{ e with key:=.int .i64 (k:Int),val:=v }).toList=es.toList.set j ⟨.int .i64 (k:Int),v,(es.toList[j]?.map (·.born)).getD 0⟩:=by
   rw [f3];apply List.ext_getElem?;intro i;rw [Array.getElem?_toList,Array.getElem?_modify,List.getElem?_set];by_cases hi:j=i
   ·subst hi;have e':es[j]=e:=(Array.getElem?_eq_some_iff.1 he).2;simp [he,hj,e']
   ·simp [hi]
  refine ⟨{ W with heap:=W.heap.setIfInBounds mb (.map (es.modify j fun e=>{ e with key:=.int .i64 (k:Int),val:=v }) c) },?_,?_,(Qax.refl lo stT W).setMap h1 hl _,fun b hb=>Array.getElem?_setIfInBounds_ne (fun e=>hb e.symm)⟩
  ·simp [Instr.mapUpdate,run_underlying underlying83,MapKept.run_getObj_map h1,key_ok,MapKept.run_findKey underlying3 (f1 0),MapKept.run_setObj_map _ h1,Result.andThen,Instr.keyThatStays,he,f5,Instr.sameBits]
  ·refine ⟨_,_,set_at hlt _,?_⟩;rw [hmod];exact (f4 l v id hv).keep ((Qax.refl lo stT W).setMap h1 hl _)
theorem run_plen {W:World} {mb:Nat} {P:List (Nat×List UInt8)} (h:PMap W mb P) (ty:TypeId):(Builtin.len_ #[83] ty #[.map (some mb)]).run prog W=.ok (.int .i64 (P.length:Int)) W:=by
 obtain ⟨es,c,h1,h2⟩:=h
 have:=h2.length
 have e:es.size=P.length:=by simpa using this
 simp [Builtin.len_,run_underlying underlying83,MapKept.run_getObj_map h1,Result.andThen,goInt,e]
theorem run_pclear {W:World} {mb:Nat} {P:List (Nat×List UInt8)} (h:PMap W mb P) (ty:TypeId) (lo:Nat) (hl:lo≤mb):∃ W',(Builtin.clear_ #[83] ty #[.map (some mb)]).run prog W=.ok (.tuple #[]) W'∧PMap W' mb []∧Qax lo stT W W'∧∀ b,b≠mb→W'.heap[b]? = W.heap[b]?:=by
 obtain ⟨es,c,h1,h2⟩:=h;have hlt:mb<W.heap.size:=(Array.getElem?_eq_some_iff.1 h1).1;refine ⟨{ W with heap:=W.heap.setIfInBounds mb (.map #[] c) },?_,⟨_,_,set_at hlt _,.nil⟩,(Qax.refl lo stT W).setMap h1 hl _,fun b hb=>Array.getElem?_setIfInBounds_ne (fun e=>hb e.symm)⟩
 simp [Builtin.clear_,run_underlying underlying83,MapKept.run_getObj_map h1,MapKept.run_setObj_map _ h1,Result.andThen]
end
section
open Go.RowKit Go.Lib Go.Proofs.Tryz
def Qaw (p:Nat) (h:Hd) (mb:Nat) (lost:Bool):List Value:=.pointer (some ⟨p,0,none⟩) :: (h.cells++[.map (some mb),.bool lost])
theorem Qim {p:Nat} {h:Hd} {mb:Nat} {lost:Bool} (k:h.ok):(Qaw p h mb lost).length=46:=by simp [Qaw,Hd.cells_length k]
structure QbF (w W:World) (p nb sb:Nat) (cv:Value) (n:Nat) (D:Dk) (s mb:Nat) (h:Hd) (P:List (Nat×List UInt8)) (lost:Bool):Prop where
 tn:Tn w W p nb sb cv n D
 box:W.heap[s]? = some (.cells (Qaw p h mb lost).toArray 85 (0,0))
 ls:w.heap.size≤s
 lm:w.heap.size≤mb
 mp:PMap W mb P
 ok:h.ok
section
variable {w W:World} {p nb sb:Nat} {cv:Value} {n:Nat} {D:Dk} {s mb:Nat} {h:Hd} {P:List (Nat×List UInt8)} {lost:Bool}
theorem QbF.at (a:QbF w W p nb sb cv n D s mb h P lost) (i:Nat):W.cell? ⟨s,i,none⟩=(Qaw p h mb lost)[i]?:=by
 rw [cell_of_row W s i _ _ (0,0) a.box];simp
theorem QbF.c0 (a:QbF w W p nb sb cv n D s mb h P lost):W.cell? ⟨s,0,none⟩=some (.pointer (some ⟨p,0,none⟩)):=by rw [a.at];rfl
theorem QbF.cw (a:QbF w W p nb sb cv n D s mb h P lost) (k:Nat) (hk:k<40):W.cell? ⟨s,4+k,none⟩=some (.int .u8 ((h.whr.getD k 0).toNat:Int)):=by
 have hl:=a.ok.w;rw [a.at];unfold Qaw Hd.cells;rw [show 4+k=(k+3)+1 by omega,List.getElem?_cons_succ,List.getElem?_append_left (by simp [Qaf];omega)]
 rw [show k+3=((k+1)+1)+1 by omega,List.getElem?_cons_succ,List.getElem?_cons_succ,List.getElem?_cons_succ,Qb0 _ _ (by omega)]
 simp [List.getD_eq_getElem?_getD,List.getElem?_eq_getElem (show k<h.whr.length by omega)]
theorem QbF.cm (a:QbF w W p nb sb cv n D s mb h P lost):W.cell? ⟨s,44,none⟩=some (.map (some mb)):=by
 rw [a.at];unfold Qaw;rw [List.getElem?_cons_succ,List.getElem?_append_right (by rw [Hd.cells_length a.ok];decide),Hd.cells_length a.ok]
 rfl
theorem QbF.cl (a:QbF w W p nb sb cv n D s mb h P lost):W.cell? ⟨s,45,none⟩=some (.bool lost):=by
 rw [a.at];unfold Qaw;rw [List.getElem?_cons_succ,List.getElem?_append_right (by rw [Hd.cells_length a.ok];decide),Hd.cells_length a.ok]
 rfl
theorem QbF.range (a:QbF w W p nb sb cv n D s mb h P lost):W.rangeAt s 1 h.cells:=by
 intro j v hv;rw [a.at];unfold Qaw;rw [Nat.add_comm 1 j,List.getElem?_cons_succ,List.getElem?_append_left ((List.getElem?_eq_some_iff.1 hv).1)];exact hv
theorem QbF.ne (a:QbF w W p nb sb cv n D s mb h P lost):s≠mb:=fun e=>by
 obtain ⟨es,c,h1,_⟩:=a.mp
 have:=a.box
 rw [e,h1] at this;cases this
theorem QbF.keep (a:QbF w W p nb sb cv n D s mb h P lost) {U:World} {cv':Value} {D':Dk} (ht:Tn w U p nb sb cv' n D') (hk:Qax w.heap.size stT W U) (h1:U.heap[s]? = W.heap[s]?) (h2:U.heap[mb]? = W.heap[mb]?):QbF w U p nb sb cv' n D' s mb h P lost:=
 ⟨ht,h1.trans a.box,a.ls,a.lm,a.mp.keep hk h2,a.ok⟩
theorem QbF.below (a:QbF w W p nb sb cv n D s mb h P lost) {U:World} (hb:Below W.heap.size W U):QbF w U p nb sb cv n D s mb h P lost:=by
 obtain ⟨es,c,h1,_⟩:=a.mp;exact a.keep (a.tn.below hb) (.of_below hb) (hb.block s (Array.getElem?_eq_some_iff.1 a.box).1) (hb.block mb (Array.getElem?_eq_some_iff.1 h1).1)
theorem QbF.disk (a:QbF w W p nb sb cv n D s mb h P lost) {U:World} {cv':Value} {D':Dk} (ht:Tn w U p nb sb cv' n D') (hk:Qan w.heap.size dkT W U):QbF w U p nb sb cv' n D' s mb h P lost:=by
 obtain ⟨es,c,h1,_⟩:=a.mp;refine a.keep ht (.of_keeps hk dk_st) (hk.row a.box (by decide) |>.trans a.box.symm) ?_
 exact hk.block mb (Array.getElem?_eq_some_iff.1 h1).1 (.inr (fun cs t fr e=>by rw [h1] at e;cases e))
theorem QbF.pend (a:QbF w W p nb sb cv n D s mb h P lost) {U:World} {P':List (Nat×List UInt8)} (hm:PMap U mb P') (hk:Qax w.heap.size stT W U) (ho:∀ b,b≠mb→U.heap[b]? = W.heap[b]?) (hcv:∀ j,cv.ownBlock=some j→j≠mb):QbF w U p nb sb cv n D s mb h P' lost:=by
 obtain ⟨es,c,h1,_⟩:=a.mp;have d:=a.tn.1;have e1:p≠mb:=fun e=>by have:=d.box;rw [e,h1] at this;cases this
 have e2:nb≠mb:=fun e=>by have:=d.now;rw [e,h1] at this;cases this
 have e3:sb≠mb:=fun e=>by have:=d.safe;rw [e,h1] at this;cases this
 refine ⟨⟨⟨(ho p e1).trans d.box,(ho nb e2).trans d.now,(ho sb e3).trans d.safe,d.ne,d.lp,d.ln,d.ls,?_,d.ok⟩,a.tn.2.trans (hk.below a.tn.2.size)⟩,(ho s a.ne).trans a.box,a.ls,a.lm,hm,a.ok⟩;refine Qa0 d.chg (fun b cs e _=>ho b (fun eb=>?_))
 rw [eb,h1] at e;cases e
theorem QbF.pendO (a:QbF w W p nb sb cv n D s mb h P lost) {U:World} {P':List (Nat×List UInt8)} (hm:PMap U mb P') (hk:Qax w.heap.size stT W U) (ho:∀ b,b≠mb→U.heap[b]? = W.heap[b]?):QbF w U p nb sb cv n D s mb h P' lost:=by
 refine a.pend hm hk ho (fun j hj e=>?_)
 obtain ⟨_,_,_,_,cs,hc⟩:=a.tn.1.pcv j hj;obtain ⟨es,c,h1,_⟩:=a.mp;rw [e,h1] at hc;cases hc
end
theorem QiF (i:Int) (w:World):Calls prog 32 #[.int .i64 i] w fun e w'=>e=.returned (.bool (decide (0≤i∧i<40)))∧w'=w:=by
 by_cases h0:0≤i
 ·by_cases h1:i<40
  ·rw [decide_eq_true ⟨h0,h1⟩];go_enter func32,ntmps32
   go_wp2;go_ret;exact ⟨rfl,rfl⟩
  ·rw [decide_eq_false (fun e=>h1 e.2)]
   go_enter func32,ntmps32
   go_wp2;go_ret;exact ⟨rfl,rfl⟩
 ·rw [decide_eq_false (fun e=>h0 e.1)]
  go_enter func32,ntmps32
  go_wp2;go_ret;exact ⟨rfl,rfl⟩
theorem first_any (k:Nat) (w:World) (hk:k<40):Calls prog 107 #[.int .i64 (k:Int)] w fun e w'=>e=.returned (.int .u8 ((2+k:Nat):Int))∧w'=w:=by
 have k0:(0:Int)≤k:=by omega
 have k1:(k:Int)<40:=by omega
 have k2:((2+k:Nat):Int)=2+(k:Int):=by omega
 rw [k2];clear k2;go_enter func107,ntmps107
 go_wp2;go_ret;refine ⟨?_,rfl⟩
 first | rfl | (congr 2;omega)
theorem second_any (k:Nat) (w:World) (hk:k<40):Calls prog 108 #[.int .i64 (k:Int)] w fun e w'=>e=.returned (.int .u8 ((42+k:Nat):Int))∧w'=w:=by
 have k0:(0:Int)≤k:=by omega
 have k1:(k:Int)<40:=by omega
 have k2:((42+k:Nat):Int)=42+(k:Int):=by omega
 rw [k2];clear k2;go_enter func108,ntmps108
 go_wp2;go_ret;refine ⟨?_,rfl⟩
 first | rfl | (congr 2;omega)
def QbO (k:Nat) (x:UInt8):Nat:=if x.toNat=2+k then 42+k else 2+k
theorem free_any (k:Nat) (x:UInt8) (w:World) (hk:k<40):Calls prog 67 #[.int .i64 (k:Int),.int .u8 (x.toNat:Int)] w fun e w'=>e=.returned (.int .u8 ((QbO k x:Nat):Int))∧w'=w:=by
 have H1:Hid (Calls _ _ _ _ _):=first_any k w hk;have H2:Hid (Calls _ _ _ _ _):=second_any k w hk;unfold QbO;by_cases hx:x.toNat=2+k
 ·rw [if_pos hx,hx];go_enter func67,ntmps67
  go_wp2_with fail;refine H1.out.mono ?_;rintro e w' ⟨rfl,hw⟩;rw [hw];clear hw w';go_wp2_with fail;refine H2.out.mono ?_;rintro e w' ⟨rfl,hw⟩;rw [hw];clear hw w';go_wp2;go_ret;exact ⟨rfl,rfl⟩
 ·rw [if_neg hx];have hx':((x.toNat:Int) == ((2+k:Nat):Int))=false:=by rw [beq_eq_false_iff_ne];omega
  generalize ((2+k:Nat):Int)=y at *
  go_enter func67,ntmps67
  go_wp2_with fail;refine H1.out.mono ?_;rintro e w' ⟨rfl,hw⟩;rw [hw];clear hw w';go_wp2_with fail;refine H1.out.mono ?_;rintro e w' ⟨rfl,hw⟩;rw [hw];clear hw w';go_wp2;go_ret;exact ⟨rfl,rfl⟩
theorem other_any (h:Hd) (w:World) (k:h.ok):Calls prog 30 #[.agg h.cells.toArray] w fun e w'=>e=.returned (.int .i64 ((1 - h.blk:Nat):Int))∧Below w.heap.size w w':=by
 have hb:=k.b;have c0:(w.alloc (.cells h.cells.toArray 80)).cell? ⟨w.heap.size,0,none⟩=some (.int .i64 (h.blk:Int)):=by
  rw [cell_of_row _ _ _ _ _ (0,0) (Qai w _)];rfl
 have HB:Hid (Below w.heap.size w (w.alloc (.cells h.cells.toArray 80))):=(Below.refl _ w).alloc (Nat.le_refl _) _;have e1:((1 - h.blk:Nat):Int)=1 - (h.blk:Int):=by omega
 rw [e1];have b0:(0:Int)≤h.blk:=by omega
 have b1:(h.blk:Int)≤1:=by omega
 generalize h.cells.toArray=C at *
 go_enter func30,ntmps30
 go_wp2;go_ret;exact ⟨rfl,HB.out⟩
theorem Qir {w W:World} {p nb sb:Nat} {cv:Value} {n:Nat} {D:Dk} (a:Tn w W p nb sb cv n D):Calls prog 28 #[.pointer (some ⟨p,0,none⟩)] W fun e w'=>e=.returned (.int .i64 (n:Int))∧Qbh W w':=by
 have c0:=a.1.p0;clear a;go_enter func28,ntmps28
 go_wp2;go_ret;exact ⟨rfl,Qbh.refl _⟩
section
variable {w W:World} {p nb sb:Nat} {cv:Value} {n:Nat} {D:Dk} {s mb:Nat} {h:Hd} {P:List (Nat×List UInt8)} {lost:Bool}
theorem rollback_any (a:QbF w W p nb sb cv n D s mb h P lost):Calls prog 35 #[.pointer (some ⟨s,0,none⟩)] W fun e w'=>e=.returned (.int .i64 (P.length:Int))∧Hid (QbF w w' p nb sb cv n D s mb h [] lost)∧Hid (Qax w.heap.size stT W w')∧Hid (∀ b,b≠mb→w'.heap[b]? = W.heap[b]?):=by
 have cm:=a.cm;have hl:=fun ty=>run_plen a.mp ty
 obtain ⟨W1,_,hm,hk,ho⟩:=run_pclear a.mp 0 w.heap.size a.lm;have hcl:∀ ty,(Builtin.clear_ #[83] ty #[.map (some mb)]).run prog W=.ok (.tuple #[]) W1:=fun ty=>by assumption
 have HE:Hid (QbF w W1 p nb sb cv n D s mb h [] lost∧Qax w.heap.size stT W W1∧∀ b,b≠mb→W1.heap[b]? = W.heap[b]?):=⟨a.pendO hm hk ho,hk,ho⟩;clear a hm hk ho;go_enter func35,ntmps35
 go_wp2;go_ret;exact ⟨rfl,HE.out.1,HE.out.2.1,HE.out.2.2⟩
end
end
section
open Go.RowKit Go.Lib Go.Proofs.Tryz
theorem Qaq.own {W:World} {n:Nat} {v:Value} {l:List UInt8} (h:Qaq W n v l):∀ j,v.ownBlock=some j→n≤j:=by
 intro j hj;rcases h.2 with ⟨h1,_⟩ | ⟨g1,c1,cur,h1,hg1,_⟩
 ·rw [h1] at hj;cases hj
 ·rw [h1] at hj;cases hj;exact hg1
theorem grown_below {w w':World} {base:Nat} {v:Value} (hg:w.grownBy w' v.ownBlock) (hb:base≤w.heap.size) (ho:∀ j,v.ownBlock=some j→base≤j):Below base w w':=(Below.refl base w).grown hg hb ho
theorem run_appB (w:World) (ty:TypeId) (base:Nat) (v:Value) (l:List UInt8) (a:Option Addr) (m:List UInt8) (cap:Nat) (hr:Qaq w base v l) (hm:QcT w a m cap) (hc:cap=0∨a≠none) (hb:base≤w.heap.size) (hlen:l.length+m.length≤1000000) :
  ∃ v' w',(Builtin.append_ #[29,29] ty #[v,.slice a m.length cap]).run prog w=.ok v' w'∧Qaq w' base v' (l++m)∧Below base w w'∧∀ b,b<w.heap.size→v.ownBlock≠some b→w'.heap[b]? = w.heap[b]?:=by
 obtain ⟨qi,hqi,hqz⟩:=u8_tinfo
 cases a with
 | none=>
  have hm0:m=[]:=by
   rcases hm.lies with h | ⟨b,off,e,_⟩
   ·exact h
   ·cases e
  subst hm0;have hc0:cap=0:=by rcases hc with h | h;exact h;exact absurd rfl h
  subst hc0;refine ⟨v,w,run_append_owned_none (P:=prog) (w:=w) base 29 ty 5 qi 1 underlying29 hqi v _ _ hr,by simpa using hr,Below.refl _ _,fun _ _ _=>rfl⟩
 | some ad=>
  obtain ⟨v',w',h1,h2,h3,_,_⟩:=run_append_own_at (P:=prog) w base 29 ty 5 qi (.int .u8 0) 1 1 underlying29 hqi hqz.1 hqz.2.1 hqz.2.2 rfl (by omega) v l.length (byC l) hr ad m.length cap (byC m) (by rw [Qaf];omega) (fun j u hj=>by
   have hjl:j<m.length:=by
    have:=(List.getElem?_eq_some_iff.1 hj).1
    rwa [Qaf] at this
   rcases hm.lies with h | ⟨b,off,e,hlt,hk⟩
   ·subst h;simp at hjl
   ·cases e;rw [Addr.add_mid,hk j hjl];rw [Qb0 m j hjl] at hj;exact hj) (QfI m) (by unfold maxLen;omega) (by omega) hb
  refine ⟨v',w',h1,?_,grown_below h3 hb hr.own,fun b hlt hne=>h3.block b hlt (fun e=>hne e.symm)⟩
  unfold Qaq;rw [List.length_append,QbJ];exact h2
theorem Qdf {w:World} {ops:Array Oper} {rest:List Oper} {o:Oper} {a:Act} {Q:Exit→Act→World→Prop} (hgd:o.guard=none) (d s:Operand) (ho:o.op=.call { callee:=.builtin .append,args:=#[d,s],argTypes:=#[29,29] })
  (base:Nat) (v:Value) (l:List UInt8) (ad:Option Addr) (m:List UInt8) (k cap:Nat) (hd:a.eval d=v) (hs:a.eval s=.slice ad k cap) (hk:m.length=k) (hr:Qaq w base v l) (hm:QcT w ad m cap) (hc:cap=0∨ad≠none) (hb:base≤w.heap.size) (hlen:l.length+m.length≤1000000)
  (h:∀ v' w',Qaq w' base v' (l++m)→Below base w w'→(∀ b,b<w.heap.size→v.ownBlock≠some b→w'.heap[b]? = w.heap[b]?)→wpList prog ops Q rest (a.put o.dst v') w'):wpList prog ops Q (o :: rest) a w:=by
 subst hk;obtain ⟨v',w',h1,h2,h3,h4⟩:=run_appB w o.type base v l ad m cap hr hm hc hb hlen;exact wpList_append_run hgd d s 29 29 ho v _ hd hs h1 (h v' w' h2 h3 h4)
theorem byRow_new (W:World) (l:List UInt8) (base:Nat) (hb:base≤W.heap.size) (hl:l.length≤1000000):Qaq (W.alloc (.cells (byC l).toArray 5)) base (.slice (some ⟨W.heap.size,0,none⟩) l.length l.length) l:=by
 refine ⟨by rw [Qaf];omega,.inr ⟨W.heap.size,l.length,(byC l).toArray,rfl,hb,Qai W _,Nat.le_refl _,by unfold maxLen;omega,by simp [Qaf],?_⟩⟩
 rw [List.toList_toArray,Nat.mul_one,← Qaf l,List.take_length]
theorem isBy_new (W:World) (l:List UInt8):QcT (W.alloc (.cells (byC l).toArray 5)) (some ⟨W.heap.size,0,none⟩) l l.length:=by
 refine ⟨Nat.le_refl _,.inr ⟨W.heap.size,0,rfl,by simp,fun k hk=>?_⟩⟩
 rw [Nat.zero_add,cell_of_row _ _ _ _ _ (0,0) (Qai W _)];simp [byC,hk]
set_option maxHeartbeats 2000000 in
theorem clone_any (a:Option Addr) (l:List UInt8) (cap:Nat) (w:World) (h:QcT w a l cap) (hc:cap=0∨a≠none) (hl:l.length≤1000) :
  Calls prog 33 #[.slice a l.length cap] w fun e w'=>∃ v,e=.returned v∧Hid (QdA w' v l)∧Hid (Below w.heap.size w w'):=by
 have q35:∀ (w:World) (a:Option Addr) (n c n' c':Nat),(binOp .eql 29 (.slice a n c) (.slice none n' c')).run prog w=.ok (.bool a.isNone) w:=fun w a n c n' c'=>Lib.run_eql_slice_nil w _ _ a n c n' c' underlying29
 cases a with
 | none=>
  have hl0:l=[]:=by
   rcases h.lies with h | ⟨b,off,e,_⟩
   ·exact h
   ·cases e
  subst hl0;have hc0:cap=0:=by rcases hc with h | h;exact h;exact absurd rfl h
  subst hc0;clear h hc;go_enter func33,ntmps33
  go_wp2;go_ret;exact ⟨_,rfl,⟨none,0,rfl,Nat.le_refl _,fun _=>rfl,.inl rfl⟩,Below.refl _ _⟩
 | some ad=>
  have HB:Hid (QcT w (some ad) l cap):=h;have l0:(0:Int)≤l.length:=by omega
  clear h hc;go_enter func33,ntmps33
  go_wp2_with (at_builtin;refine Qdf rfl (.tmp 5) (.tmp 6) rfl w.heap.size (.slice (some ⟨w.heap.size,0,none⟩) 0 0) [] (some ad) l l.length cap rfl rfl rfl (byRow_new w [] w.heap.size (Nat.le_refl _) (by simp)) (HB.out.below ((Below.refl _ w).alloc (Nat.le_refl _) _)) (.inr (by simp)) (by simp) (by simp;omega) ?_;intro v' w2 hr hb _)
  have HE:Hid (QdA w2 v' l∧Below w.heap.size w w2):=⟨QdA.of_row (by simpa using hr),((Below.refl _ w).alloc (Nat.le_refl _) _).trans hb⟩
  clear hr hb;go_wp2;go_ret;exact ⟨_,rfl,HE.out.1,HE.out.2⟩
theorem run_appFull (w:World) (ty:TypeId) (base:Nat) (b:Nat) (l:List UInt8) (g:Nat) (m:List UInt8) (cap:Nat) (hs:∀ k (h:k<l.length),w.cell? ⟨b,k,none⟩=some (.int .u8 (l[k]'h).toNat)) (hm:∀ k (h:k<m.length),w.cell? ⟨g,k,none⟩=some (.int .u8 (m[k]'h).toNat)) (h0:0<m.length) (hb:base≤w.heap.size) (hlen:l.length+m.length≤1000) (hfit:Builtin.nextslicecap (l.length+m.length) l.length*1≤281474976710656) :
  ∃ v' w',(Builtin.append_ #[29,29] ty #[.slice (some ⟨b,0,none⟩) l.length l.length,.slice (some ⟨g,0,none⟩) m.length cap]).run prog w=.ok v' w'∧Qaq w' base v' (l++m)∧Below w.heap.size w w'∧v'.ownBlock=some w.heap.size:=by
 obtain ⟨qi,hqi,hqz⟩:=u8_tinfo;have h:=run_append_grow (P:=prog) w 29 ty 5 qi (.int .u8 0) underlying29 hqi hqz.1 ⟨b,0,none⟩ l.length l.length (byC l) (by rw [Qaf,hqz.2.1];omega) (fun j v hj=>by
   have hjl:j<l.length:=by
    have:=(List.getElem?_eq_some_iff.1 hj).1
    rwa [Qaf] at this
   rw [Addr.add_mid,Nat.zero_add,hs j hjl];rw [Qb0 l j hjl] at hj;exact hj) ⟨g,0,none⟩ m.length cap (byC m) (by rw [Qaf,hqz.2.1];omega) (fun j v hj=>by
   have hjl:j<m.length:=by
    have:=(List.getElem?_eq_some_iff.1 hj).1
    rwa [Qaf] at this
   rw [Addr.add_mid,Nat.zero_add,hm j hjl];rw [Qb0 m j hjl] at hj;exact hj) (by omega) (by omega) (by rw [hqz.2.2];exact hfit)
 refine ⟨_,_,h,?_,(show Below w.heap.size w w.drew from ⟨rfl,rfl,rfl,Nat.le_refl _,fun _ _=>rfl⟩).alloc (Nat.le_refl _) _,rfl⟩
 have hge:=grownCap_ge w (l.length+m.length) l.length 5;have hcm:=grownCap_le_maxLen w (l.length+m.length) l.length 5 (by unfold maxLen;omega)
 unfold Qaq;rw [List.length_append,QbJ];refine ⟨by rw [List.length_append,Qaf,Qaf];omega,.inr ⟨w.heap.size,_,_,rfl,hb,Qai w.drew _,hge,hcm,?_,?_⟩⟩
 ·simp only [Array.size_append,List.size_toArray,size_zeroCells,Qaf,Value.cells,Array.size_singleton];simp;omega
 ·simp only [Array.toList_append,List.append_assoc];rw [← List.append_assoc,Nat.mul_one,← Qaf l,← Qaf m,← List.length_append];exact List.take_left
theorem Qin {w:World} {ops:Array Oper} {rest:List Oper} {o:Oper} {a:Act} {Q:Exit→Act→World→Prop} (hgd:o.guard=none) (d s:Operand) (ho:o.op=.call { callee:=.builtin .append,args:=#[d,s],argTypes:=#[29,29] })
  (base b:Nat) (l:List UInt8) (g:Nat) (m:List UInt8) (k q cap:Nat) (hd:a.eval d=.slice (some ⟨b,0,none⟩) q q) (he:a.eval s=.slice (some ⟨g,0,none⟩) k cap) (hq:l.length=q) (hk:m.length=k) (hs:∀ k (h:k<l.length),w.cell? ⟨b,k,none⟩=some (.int .u8 (l[k]'h).toNat)) (hm:∀ k (h:k<m.length),w.cell? ⟨g,k,none⟩=some (.int .u8 (m[k]'h).toNat)) (h0:0<m.length) (hb:base≤w.heap.size) (hlen:l.length+m.length≤1000) (hfit:Builtin.nextslicecap (l.length+m.length) l.length*1≤281474976710656)
  (h:∀ v' w',Qaq w' base v' (l++m)→Below w.heap.size w w'→v'.ownBlock=some w.heap.size→wpList prog ops Q rest (a.put o.dst v') w'):wpList prog ops Q (o :: rest) a w:=by
 subst hk;subst hq;obtain ⟨v',w',h1,h2,h3,h4⟩:=run_appFull w o.type base b l g m cap hs hm h0 hb hlen hfit;exact wpList_append_run hgd d s 29 29 ho _ _ hd he h1 (h v' w' h2 h3 h4)
def Qbz:List UInt8:=[113,100,32,112,97,103,101,115]
def verB (v:Nat):List UInt8:=(List.range 8).map fun i=>UInt8.ofNat (v / 2 ^ (56 - 8*i))
theorem Qbe (v:Nat):(verB v).length=8:=by simp [verB]
theorem verB_take (v i:Nat) (h:i<8):(verB v).take (i+1)=(verB v).take i++[UInt8.ofNat (v / 2 ^ (56 - 8*i))]:=by
 rw [List.take_add_one,List.getElem?_eq_getElem (by rw [Qbe];exact h)]
 simp [verB]
def hdB (h:Hd):List UInt8:=((Qbz++[h.turn])++verB h.ver)++h.whr
theorem QiS {h:Hd} (k:h.ok):(hdB h).length=57:=by simp [hdB,Qbz,Qbe,k.w]
end
end Go.Proofs.YtjifbbdkpanagaaGreatDoor
