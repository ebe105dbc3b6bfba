/-
  Part of a proof (see the last text).
-/
import Derived.Test.YtjifbbdkpanagaaGreatDoorZd43
set_option linter.unusedVariables false
set_option linter.unusedSimpArgs false
set_option maxRecDepth 100000
namespace Go.Proofs.YtjifbbdkpanagaaGreatDoor
section
open Go.RowKit Go.Lib Go.Proofs.Tryz
theorem build_store' (p blk:Nat) (turn:UInt8) (ver:Nat) (f:Nat→UInt8) (mb:Nat) (w:World):(Instr.build 85 #[(0,.pointer (some ⟨p,0,none⟩)),(1,.agg (Hd.mk blk turn ver ((List.range 40).map f)).cells.toArray),(2,.map (some mb))]).run prog w=.ok (.agg (Qaw p (Hd.mk blk turn ver ((List.range 40).map f)) mb false).toArray) w:=by
 refine run_build w 85 _ _ ?_
 kernel_rfl
theorem whr_fn {l:List UInt8} (h:l.length=40):(List.range 40).map (fun i=>l.getD i 0)=l:=by
 apply List.ext_getElem
 ·simp [h]
 ·intro i h1 h2;simp [List.getD_eq_getElem?_getD,List.getElem?_eq_getElem h2]
theorem build_store (p:Nat) (h:Hd) (k:h.ok) (mb:Nat) (w:World):(Instr.build 85 #[(0,.pointer (some ⟨p,0,none⟩)),(1,.agg h.cells.toArray),(2,.map (some mb))]).run prog w=.ok (.agg (Qaw p h mb false).toArray) w:=by
 have:=build_store' p h.blk h.turn h.ver (fun i=>h.whr.getD i 0) mb w
 rw [whr_fn k.w] at this;exact this
theorem newer_ok {D:Dk} {o0 o1:Option Hd} (h0:hdAt D 0 o0) (h1:hdAt D 1 o1):∀ x,QbC o0 o1=some x→x.ok:=fun x e=>by
 unfold QbC at e
 cases o1 with
 | none=>exact QbR h0 x e
 | some y=>
  cases o0 with
  | none=>exact QbR h1 x e
  | some z=>
   simp only at e;split at e
   ·exact QbR h1 x e
   ·exact QbR h0 x e
section
variable {w W:World} {p nb sb:Nat} {cv:Value} {n:Nat} {D:Dk}
set_option maxHeartbeats 2000000 in
theorem open_some (a:Tn w W p nb sb cv n D) (hn:90≤n) (o0 o1:Option Hd) (h0:hdAt D 0 o0) (h1:hdAt D 1 o1) (x:Hd) (hx:QbC o0 o1=some x) :
  Calls prog 9 #[.pointer (some ⟨p,0,none⟩)] W fun e w'=>∃ s mb,e=.returned (.tuple #[.pointer (some ⟨s,0,none⟩),.nilIface])∧Hid (QbF w w' p nb sb cv n D s mb x [] false)∧Hid (Below W.heap.size W w'):=by
 have HB:Hid (Calls _ _ _ _ _):=Qir a;have n1:¬ (n:Int)<90:=by omega
 have HN:Hid (∀ U,Qbh W U→Calls _ _ _ U _):=fun U hU=>Qis (a.still hU) (by omega) o0 o1 h0 h1
 have hal:=Qb1;have ko:x.ok:=newer_ok h0 h1 x hx;rw [hx] at HN;rw [show hdV (some x)=.agg x.cells.toArray from rfl,show (some x).isSome=true from rfl] at HN
 have Ha:Hid (Tn w W p nb sb cv n D):=a;have hst:=fun U=>run_storeAt_new (P:=prog) U 80 hd0.cells.toArray x.cells.toArray (by rw [List.size_toArray,Hd.cells_length ko];exact QbT) (by rw [List.size_toArray,List.size_toArray,Hd.cells_length Qb5,Hd.cells_length ko]) (all_oneCell_toArray (Hd.cells_one _))
 obtain ⟨C0,hC0⟩:∃ C0,hd0.cells.toArray=C0:=⟨_,rfl⟩;rw [hC0] at hal hst;have hmm:=@run_makeMap prog;have hbd:=fun mb U=>build_store p x ko mb U
 clear a h0 h1 hx hC0;go_enter func9,ntmps9
 go_wp2_with fail;refine HB.out.mono ?_;rintro e w1 ⟨rfl,hs1⟩;clear HB;go_wp2_with fail;refine (HN.out w1 hs1).mono ?_;rintro e w2 ⟨rfl,hb2⟩;clear HN;have hbW:Below W.heap.size W w2:=(hs1.below _).trans (hb2.out.mono (by rw [hs1.heap];exact Nat.le_refl _))
 obtain ⟨v2,hv2⟩:∃ v2,w2.alloc (.cells x.cells.toArray 80)=v2:=⟨_,rfl⟩;have hB2:Below W.heap.size W v2:=by rw [← hv2];exact hbW.alloc hbW.size _
 have hld:=Qa5 (u:=v2) (B:=w2.heap.size) (o:=0) ko (QdG (t:=80) (by rw [← hv2];exact Qai w2 _))
 have hst2:=hst w2;rw [hv2] at hst2;have hs2:v2.heap.size=w2.heap.size+1:=by rw [← hv2];simp
 have HE:Hid (QbF w ((v2.alloc (.map #[] 0)).alloc (.cells (Qaw p x v2.heap.size false).toArray 85)) p nb sb cv n D (v2.heap.size+1) v2.heap.size x [] false∧Below W.heap.size W ((v2.alloc (.map #[] 0)).alloc (.cells (Qaw p x v2.heap.size false).toArray 85))):=by
  have hb5:Below W.heap.size W ((v2.alloc (.map #[] 0)).alloc (.cells (Qaw p x v2.heap.size false).toArray 85)):=(hB2.alloc hB2.size _).alloc (by have:=hB2.size;simp;omega) _
  have e1:(v2.alloc (.map #[] 0)).heap.size=v2.heap.size+1:=by simp
  have hmb:((v2.alloc (.map #[] 0)).alloc (.cells (Qaw p x v2.heap.size false).toArray 85)).heap[v2.heap.size]? = some (.map #[] 0):=(Below.heap_alloc _ _ _ (by rw [e1];exact Nat.lt_succ_self _)).trans (Qai v2 _)
  have hsb:((v2.alloc (.map #[] 0)).alloc (.cells (Qaw p x v2.heap.size false).toArray 85)).heap[v2.heap.size+1]? = some (.cells (Qaw p x v2.heap.size false).toArray 85 (0,0)):=by rw [← e1];exact Qai _ _
  have hw1:=Ha.out.2.size;have hw2:=hB2.size;exact ⟨⟨Ha.out.below hb5,hsb,by omega,by omega,⟨#[],0,hmb,.nil⟩,ko⟩,hb5⟩
 clear hs1 hb2 hbW hst hv2 hB2;generalize hA:x.cells.toArray=A0 at *
 clear hA;go_wp2_with (first | (refine Qae rfl 80 rfl (hal _) ?_) | (refine Qac rfl 80 _ _ rfl _ _ (by rfl) (by rfl) hst2 ?_) | (refine Qao rfl 80 _ rfl _ (by rfl) hld ?_) | (refine Qbj rfl 85 #[(0,.tmp 18),(1,.tmp 19),(2,.tmp 20)] rfl #[(0,.pointer (some ⟨p,0,none⟩)),(1,.agg A0),(2,.map (some v2.heap.size))] (by simp [Act.eval,hs2]) (hbd _ _) ?_))
 rw [← hs2];go_ret2;exact ⟨v2.heap.size+1,v2.heap.size,rfl,HE.out.1,HE.out.2⟩
end
end
section
open Go.RowKit Go.Lib Go.Proofs.Tryz
section
variable {P:Program} {o:Oper} {a:Act} {w w':World} {K:Act→World→Prop} {Q:Exit→Act→World→Prop}
theorem Qgr (t:TypeId) (m k x:Operand) (ho:o.op=.mapUpdate t m k x) (u1 u2 u3:Value) (h1:a.eval m=u1) (h2:a.eval k=u2) (h3:a.eval x=u3) (hr:(Instr.mapUpdate t u1 u2 u3).run P w=.ok () w') (h:K (a.put o.dst undef) w'):o.wp P a w K Q:=by
 unfold Oper.wp execOp;simp only [ho,Sem.run_bind,Sem.run_pure,Result.andThen_ok,h1,h2,h3,hr];exact h
end
section
variable {w W:World} {p nb sb:Nat} {cv:Value} {n:Nat} {D:Dk} {s mb:Nat} {h:Hd} {P:List (Nat×List UInt8)} {lost:Bool}
set_option maxHeartbeats 2000000 in
theorem stPut_ok (a:QbF w W p nb sb cv n D s mb h P false) (k:Nat) (hk:k<40) (ad:Option Addr) (l:List UInt8) (cap:Nat) (hB:QcT W ad l cap) (hc:cap=0∨ad≠none) (hl:l.length≤60) :
  Calls prog 10 #[.pointer (some ⟨s,0,none⟩),.int .i64 (k:Int),.slice ad l.length cap] W fun e w'=>e=.returned .nilIface∧Hid (QbF w w' p nb sb cv n D s mb h (upd P k l) false)∧Hid (Qax w.heap.size stT W w'):=by
 have cl:=a.cl;have HI:Hid (Calls _ _ _ W _):=QiF k W;rw [decide_eq_true (by omega)] at HI
 have Ha:Hid (QbF w W.drew p nb sb cv n D s mb h P false):=a.below ⟨rfl,rfl,rfl,Nat.le_refl _,fun _ _=>rfl⟩
 have HC:Hid (Calls _ _ _ W.drew _):=clone_any ad l cap W.drew (hB.below ⟨rfl,rfl,rfl,Nat.le_refl _,fun _ _=>rfl⟩) hc (by omega)
 have l0:(0:Int)≤l.length:=by omega
 have l1:¬ (60:Int)<l.length:=by omega
 have HK0:Hid (Qax w.heap.size stT W W.drew):=.of_below ⟨rfl,rfl,rfl,Nat.le_refl _,fun _ _=>rfl⟩
 have cmd:W.drew.cell? ⟨s,44,none⟩=some (.map (some mb)):=a.cm;clear a hB hk;go_enter func10,ntmps10
 go_wp2_with fail;refine HI.out.mono ?_;rintro e w' ⟨rfl,hw⟩;rw [hw];clear hw w' HI;go_wp2;refine Qab (by kernel_rfl) ?_
 refine wpAny_take (i:=0) (v:=.pointer (some ⟨s,0,none⟩)) rfl (by kernel_rfl) (by kernel_rfl) (by kernel_rfl) (fun _ _ _ h=>h) (Or.inl ⟨by rfl,fun w=>by go_simp⟩) ?_
 simp only [Act.put,zq0,zq1,zq2,zq3,zq4,zq5];refine wpAny_take (i:=1) (v:=.pointer (some ⟨s,0,none⟩)) rfl (by kernel_rfl) (by kernel_rfl) (by kernel_rfl) (fun _ _ _ h=>h) (Or.inl ⟨by rfl,fun w=>by go_simp⟩) ?_
 simp only [Act.put,zq0,zq1,zq2,zq3,zq4,zq5];refine wpAny_take (i:=2) (v:=.pointer (some ⟨s,44,none⟩)) rfl (by kernel_rfl) (by kernel_rfl) (by kernel_rfl) (fun _ _ _ h=>h) (Or.inl ⟨by rfl,fun w=>by go_simp⟩) ?_
 simp only [Act.put,zq0,zq1,zq2,zq3,zq4,zq5];refine wpAny_take (i:=4) (v:=.int .i64 k) rfl (by kernel_rfl) (by kernel_rfl) (by kernel_rfl) (fun _ _ _ h=>h) (Or.inl ⟨by rfl,fun w=>by go_simp⟩) ?_
 simp only [Act.put,zq0,zq1,zq2,zq3,zq4,zq5];refine wpAny_take (i:=5) (v:=.slice ad l.length cap) rfl (by kernel_rfl) (by kernel_rfl) (by kernel_rfl) (fun _ _ _ h=>h) (Or.inl ⟨by rfl,fun w=>by go_simp⟩) ?_
 simp only [Act.put,zq0,zq1,zq2,zq3,zq4,zq5];refine QaD (g:=7) (T:=fun u=>u.cell? ⟨s,44,none⟩=some (.map (some mb))) _ _ _ _ ?_
 refine Qaz (i:=3) (v:=.map (some mb)) rfl rfl (by kernel_rfl) (by decide) (by kernel_rfl) (by kernel_rfl) (by kernel_rfl) (by kernel_rfl) (fun _ _ _ h=>h) (Or.inl ⟨by rfl,fun w' hw'=>by go_simp⟩) cmd ?_
 simp only [Act.put,zq0,zq1,zq2,zq3,zq4,zq5];refine Qic (i:=6) (by kernel_rfl) ?_
 refine wpOp_step rfl (fun K hK=>?_)
 rw [if_pos (by rfl)]
 go_wp2_with fail;refine HC.out.mono ?_;rintro e w2 ⟨v,rfl,hv,hb2⟩;have a2:QbF w w2 p nb sb cv n D s mb h P false:=Ha.out.below hb2.out;obtain ⟨w3,hrun,hm3,hk3,ho3⟩:=run_put a2.mp k v l hv.out w.heap.size a2.lm;have HE:Hid (QbF w w3 p nb sb cv n D s mb h (upd P k l) false∧Qax w.heap.size stT W w3):=⟨a2.pendO hm3 hk3 ho3,(HK0.out.trans (.of_below hb2.out)).trans hk3⟩;refine hK _ _ ⟨a2.cm,?_⟩;clear hK K HC Ha hv hb2 a2 hm3 hk3 ho3
 refine Qhw (by kernel_rfl) (by kernel_rfl) ?_
 refine wpOp_step rfl (fun K hK=>?_)
 rw [if_pos (by rfl)]
 refine Qgr 83 (.tmp 23) (.tmp 24) (.tmp 26) (by rfl) (.map (some mb)) (.int .i64 (k:Int)) v (by rfl) (by rfl) (by rfl) hrun ?_
 refine hK _ _ ?_;clear hK K hrun;refine wpAny_done (by kernel_rfl) ?_ _
 go_wp2;go_ret;exact ⟨rfl,HE.out.1,HE.out.2⟩
end
end
section
open Go.RowKit Go.Lib Go.Proofs.Tryz
def PgIs (D:Dk) (n:Nat) (h:Hd) (k:Nat) (l:List UInt8):Prop:=
 (h.whr.getD k 0=0∧l=[])∨(h.whr.getD k 0≠0∧(h.whr.getD k 0).toNat<n∧pgAt D (h.whr.getD k 0).toNat l∧l.length≤60)
section
variable {w W:World} {p nb sb:Nat} {cv:Value} {n:Nat} {D:Dk} {s mb:Nat} {h:Hd} {P:List (Nat×List UInt8)} {lost:Bool}
set_option maxHeartbeats 2000000 in
theorem get_any (a:QbF w W p nb sb cv n D s mb h P false) (k:Nat) (hk:k<40) (l:List UInt8) (hp:PgIs D n h k l) (hP:∀ k l,look P k=some l→l.length≤60) :
  Calls prog 13 #[.pointer (some ⟨s,0,none⟩),.int .i64 (k:Int)] W fun e w'=>∃ ad cap,e=.returned (.tuple #[.slice ad ((look P k).getD l).length cap,.nilIface])∧Hid (QcT w' ad ((look P k).getD l) cap)∧Hid (Below W.heap.size W w'):=by
 have cl:=a.cl;have cm:=a.cm;have HI:Hid (Calls _ _ _ W _):=QiF k W;rw [decide_eq_true (by omega)] at HI
 obtain ⟨v,hrun,hv,hvn⟩:=run_look a.mp k;have k0:(0:Int)≤k:=by omega
 have k1:(k:Int)<40:=by omega
 cases hq:look P k with
 | some l'=>
  rw [hq] at hrun hv;have hl':=hP k l' hq;obtain ⟨ad,cap,rfl,hcc,hby⟩:=hv.isBy;have HC:Hid (Calls _ _ _ W _):=clone_any ad l' cap W hby hcc (by omega)
  simp only [Option.getD_some] at HC hrun ⊢;clear a hv hp hby hvn;go_enter func13,ntmps13
  go_wp2_with fail;refine HI.out.mono ?_;rintro e w' ⟨rfl,hw⟩;rw [hw];clear hw w' HI;go_wp2_with fail;refine HC.out.mono ?_;rintro e w2 ⟨v,rfl,hv,hb2⟩;obtain ⟨ad2,cap2,rfl,_,hby2⟩:=hv.out.isBy;have HB2:Hid (QcT w2 ad2 l' cap2):=hby2;clear hv hby2;go_wp2;go_ret2;exact ⟨ad2,cap2,rfl,HB2,hb2⟩
 | none=>
  rw [hq] at hrun hv;have hvn':=hvn hq;subst hvn';clear hvn;rcases hp with ⟨hw0,rfl⟩ | ⟨hw0,hwn,hpg,hl⟩
  ·have cw:=a.cw k hk;rw [hw0] at cw;have cw':W.cell? ⟨s,4+k,none⟩=some (.int .u8 0):=cw;clear a hv cw;go_enter func13,ntmps13
   go_wp2_with fail;refine HI.out.mono ?_;rintro e w' ⟨rfl,hw⟩;rw [hw];clear hw w' HI;go_wp2;go_ret2;exact ⟨none,0,rfl,⟨Nat.le_refl _,.inl rfl⟩,Below.refl _ _⟩
  ·have cw:=a.cw k hk;have hne:((h.whr.getD k 0).toNat:Int)≠0:=fun e=>hw0 (UInt8.toNat_inj.1 (by
    have:(0:UInt8).toNat=0:=rfl
    omega))
   have hlt:=UInt8.toNat_lt (h.whr.getD k 0);have hneb:(((h.whr.getD k 0).toNat:Int) == 0)=false:=by rw [beq_eq_false_iff_ne];exact hne
   have HR:Hid (Calls _ _ _ W.drew _):=readPage_any (W:=W.drew) (a.tn.below ⟨rfl,rfl,rfl,Nat.le_refl _,fun _ _=>rfl⟩) _ hwn l hl hpg
   have c0:W.drew.cell? ⟨s,0,none⟩=some (.pointer (some ⟨p,0,none⟩)):=a.c0;have cwd:W.drew.cell? ⟨s,4+k,none⟩=some (.int .u8 ((h.whr.getD k 0).toNat:Int)):=cw;generalize (h.whr.getD k 0).toNat=X at *
   have x0:(0:Int)≤X:=by omega
   have x1:(X:Int)<256:=by omega
   have hwx:IntKind.i64.wrap (X:Int)=X:=by rw [IntKind.wrap_i64];omega
   clear a hv hpg hne;go_enter func13,ntmps13
   go_wp2_with fail;refine HI.out.mono ?_;rintro e w' ⟨rfl,hw⟩;rw [hw];clear hw w' HI;go_wp2;refine Qab (by kernel_rfl) ?_
   refine wpAny_take (i:=0) (v:=.pointer (some ⟨s,0,none⟩)) rfl (by kernel_rfl) (by kernel_rfl) (by kernel_rfl) (fun _ _ _ h=>h) (Or.inl ⟨by rfl,fun w=>by go_simp⟩) ?_
   simp only [Act.put,zq0,zq1,zq2,zq3,zq4,zq5];refine wpAny_take (i:=1) (v:=.pointer (some ⟨s,0,none⟩)) rfl (by kernel_rfl) (by kernel_rfl) (by kernel_rfl) (fun _ _ _ h=>h) (Or.inl ⟨by rfl,fun w=>by go_simp⟩) ?_
   simp only [Act.put,zq0,zq1,zq2,zq3,zq4,zq5];refine wpAny_take (i:=2) (v:=.pointer (some ⟨s,0,none⟩)) rfl (by kernel_rfl) (by kernel_rfl) (by kernel_rfl) (fun _ _ _ h=>h) (Or.inl ⟨by rfl,fun w=>by go_simp⟩) ?_
   simp only [Act.put,zq0,zq1,zq2,zq3,zq4,zq5];refine wpAny_take (i:=4) (v:=.pointer (some ⟨s,0,none⟩)) rfl (by kernel_rfl) (by kernel_rfl) (by kernel_rfl) (fun _ _ _ h=>h) (Or.inl ⟨by rfl,fun w=>by go_simp⟩) ?_
   simp only [Act.put,zq0,zq1,zq2,zq3,zq4,zq5];refine wpAny_take (i:=5) (v:=.int .i64 k) rfl (by kernel_rfl) (by kernel_rfl) (by kernel_rfl) (fun _ _ _ h=>h) (Or.inl ⟨by rfl,fun w=>by go_simp⟩) ?_
   simp only [Act.put,zq0,zq1,zq2,zq3,zq4,zq5];refine wpAny_take (i:=6) (v:=.pointer (some ⟨s,0,none⟩)) rfl (by kernel_rfl) (by kernel_rfl) (by kernel_rfl) (fun _ _ _ h=>h) (Or.inl ⟨by rfl,fun w=>by go_simp⟩) ?_
   simp only [Act.put,zq0,zq1,zq2,zq3,zq4,zq5];refine wpAny_take (i:=7) (v:=.pointer (some ⟨s,1,none⟩)) rfl (by kernel_rfl) (by kernel_rfl) (by kernel_rfl) (fun _ _ _ h=>h) (Or.inl ⟨by rfl,fun w=>by go_simp⟩) ?_
   simp only [Act.put,zq0,zq1,zq2,zq3,zq4,zq5];refine wpAny_take (i:=8) (v:=.pointer (some ⟨s,4,none⟩)) rfl (by kernel_rfl) (by kernel_rfl) (by kernel_rfl) (fun _ _ _ h=>h) (Or.inl ⟨by rfl,fun w=>by go_simp⟩) ?_
   simp only [Act.put,zq0,zq1,zq2,zq3,zq4,zq5];refine wpAny_take (i:=9) (v:=.pointer (some ⟨s,4+k,none⟩)) rfl (by kernel_rfl) (by kernel_rfl) (by kernel_rfl) (fun _ _ _ h=>h) (Or.inl ⟨by rfl,fun w=>by go_simp⟩) ?_
   simp only [Act.put,zq0,zq1,zq2,zq3,zq4,zq5];refine QaD (g:=12) (T:=fun u=>u=W.drew) _ _ _ _ ?_
   refine Qaz (i:=3) (v:=.pointer (some ⟨p,0,none⟩)) rfl rfl (by kernel_rfl) (by decide) (by kernel_rfl) (by kernel_rfl) (by kernel_rfl) (by kernel_rfl) (fun _ _ _ h=>h) (Or.inl ⟨by rfl,fun w' hw'=>by subst hw';go_simp⟩) rfl ?_
   simp only [Act.put,zq0,zq1,zq2,zq3,zq4,zq5];refine L_take2 (i:=10) (m:=11) (v:=.int .u8 (X:Int)) rfl rfl rfl (by kernel_rfl) (by kernel_rfl) (by decide) (by kernel_rfl) (by kernel_rfl) (by kernel_rfl) (by kernel_rfl) (by kernel_rfl) (fun _ _ _ h=>h) (Or.inl ⟨by rfl,fun w' hw'=>by subst hw';go_simp⟩) rfl ?_
   simp only [Act.put,zq0,zq1,zq2,zq3,zq4,zq5];refine Qaz (i:=11) (v:=.int .i64 X) rfl rfl (by kernel_rfl) (by decide) (by kernel_rfl) (by kernel_rfl) (by kernel_rfl) (by kernel_rfl) (fun _ _ _ h=>h) (Or.inl ⟨by rfl,fun w' hw'=>by clear hw';go_simp⟩) rfl ?_
   simp only [Act.put,zq0,zq1,zq2,zq3,zq4,zq5];refine Qhw (by kernel_rfl) (by kernel_rfl) ?_
   refine wpOp_step rfl (fun K hK=>?_)
   rw [if_pos (by rfl)]
   go_wp2_with fail;refine HR.out.mono ?_;rintro e w2 ⟨ad,cap,rfl,hby,hb2,_⟩;refine hK _ _ ?_;clear hK K HR;have HB2:Hid (Below W.heap.size W w2):=(show Below W.heap.size W W.drew from ⟨rfl,rfl,rfl,Nat.le_refl _,fun _ _=>rfl⟩).trans hb2.out
   refine wpAny_take (i:=13) (v:=.slice ad l.length cap) rfl (by kernel_rfl) (by kernel_rfl) (by kernel_rfl) (fun _ _ _ h=>h) (Or.inl ⟨by rfl,fun w=>by go_simp⟩) ?_
   simp only [Act.put,zq0,zq1,zq2,zq3,zq4,zq5];refine wpAny_take (i:=14) (v:=.nilIface) rfl (by kernel_rfl) (by kernel_rfl) (by kernel_rfl) (fun _ _ _ h=>h) (Or.inl ⟨by rfl,fun w=>by go_simp⟩) ?_
   simp only [Act.put,zq0,zq1,zq2,zq3,zq4,zq5];refine wpAny_take (i:=15) (v:=.slice ad l.length cap) rfl (by kernel_rfl) (by kernel_rfl) (by kernel_rfl) (fun _ _ _ h=>h) (Or.inl ⟨by rfl,fun w=>by go_simp⟩) ?_
   simp only [Act.put,zq0,zq1,zq2,zq3,zq4,zq5];refine wpAny_take (i:=16) (v:=.nilIface) rfl (by kernel_rfl) (by kernel_rfl) (by kernel_rfl) (fun _ _ _ h=>h) (Or.inl ⟨by rfl,fun w=>by go_simp⟩) ?_
   simp only [Act.put,zq0,zq1,zq2,zq3,zq4,zq5];refine wpAny_done (by kernel_rfl) ?_ _
   go_wp2;go_ret2;exact ⟨ad,cap,rfl,hby,HB2⟩
end
end
section
open Go.RowKit Go.Lib Go.Proofs.Tryz
def wpD (h:Hd) (P:List (Nat×List UInt8)) (D:Dk):Nat→Dk
 | 0=>D
 | k+1=>match look P k with
  | none=>wpD h P D k
  | some l=>(wpD h P D k).write (QbO k (h.whr.getD k 0)) (pgB l)
def wpW (h:Hd) (P:List (Nat×List UInt8)) (ws:List UInt8):Nat→List UInt8
 | 0=>ws
 | k+1=>match look P k with
  | none=>wpW h P ws k
  | some l=>(wpW h P ws k).set k (UInt8.ofNat (QbO k (h.whr.getD k 0)))
theorem QfE (h:Hd) (P:List (Nat×List UInt8)) (ws:List UInt8) (k:Nat):(wpW h P ws k).length=ws.length:=by
 induction k with
 | zero=>rfl
 | succ k ih=>
  unfold wpW
  split
  ·exact ih
  ·rw [List.length_set,ih]
theorem wpD_lim {h:Hd} {P:List (Nat×List UInt8)} {D:Dk} {j:Nat} (hd:D.lim j) (k:Nat):(wpD h P D k).lim (j+k):=by
 induction k with
 | zero=>exact hd
 | succ k ih=>
  unfold wpD
  split
  ·exact ih.mono (Nat.le_succ _)
  ·exact ⟨Nat.succ_le_succ ih.s,by have:=ih.c;simp [Dk.write];omega⟩
theorem Qdm (h:Hd) (P:List (Nat×List UInt8)) (D:Dk) (k:Nat):(wpD h P D k).fail=D.fail:=by
 induction k with
 | zero=>rfl
 | succ k ih=>
  unfold wpD
  split
  ·exact ih
  ·exact ih
theorem Qff (k:Nat) (x:UInt8) (h:k<40):QbO k x<90∧2≤QbO k x:=by unfold QbO;split <;> omega
theorem free_u8 (k:Nat) (x:UInt8) (h:k<40):(UInt8.ofNat (QbO k x)).toNat=QbO k x:=by
 rw [UInt8.toNat_ofNat']
 have:=Qff k x h
 omega
section
variable {w W:World} {p nb sb:Nat} {cv:Value} {n:Nat} {D:Dk} {s mb:Nat} {h:Hd} {P:List (Nat×List UInt8)} {lost:Bool}
def Qed (w W:World) (nx:Nat) (y:Hd):Prop:=W.heap[nx]? = some (.cells y.cells.toArray 80 (0,0))∧w.heap.size≤nx∧y.ok
theorem Qed.cw {nx:Nat} {y:Hd} (a:Qed w W nx y) (k:Nat) (hk:k<40):W.cell? ⟨nx,3+k,none⟩=some (.int .u8 ((y.whr.getD k 0).toNat:Int)):=by
 have hl:=a.2.2.w;rw [cell_of_row W nx _ _ _ (0,0) a.1,List.getElem?_toArray];unfold Hd.cells;rw [show 3+k=((k+1)+1)+1 by omega,List.getElem?_cons_succ,List.getElem?_cons_succ,List.getElem?_cons_succ,Qb0 _ _ (by omega)]
 simp [List.getD_eq_getElem?_getD,List.getElem?_eq_getElem (show k<y.whr.length by omega)]
theorem Qed.fz {nx:Nat} {y:Hd} (a:Qed w W nx y) (k:Nat):W.frozen? ⟨nx,k,none⟩=false:=by simp [World.frozen?,a.1]
theorem Qed.set {nx:Nat} {y:Hd} (a:Qed w W nx y) (k:Nat) (hk:k<40) (x:UInt8):Qed w (W.setCell ⟨nx,3+k,none⟩ (.int .u8 (x.toNat:Int))) nx { y with whr:=y.whr.set k x }:=by
 refine ⟨?_,a.2.1,⟨a.2.2.b,a.2.2.v,by simp [a.2.2.w]⟩⟩
 rw [setCell_eq_setRow W nx _ _ _ (0,0) _ a.1,setRow_heap W nx _ _ _ (0,0) a.1];congr 2;simp only [List.setIfInBounds_toArray,Hd.cells];rw [show 3+k=((k+1)+1)+1 by omega,List.set_cons_succ,List.set_cons_succ,List.set_cons_succ]
 simp [byC,List.map_set]
theorem Qed.keeps {nx:Nat} {y:Hd} (a:Qed w W nx y) {U:World} (hk:Qan w.heap.size dkT W U):Qed w U nx y:=⟨hk.row a.1 (by decide),a.2⟩
theorem Qed.below {nx:Nat} {y:Hd} (a:Qed w W nx y) {U:World} (hk:Below W.heap.size W U):Qed w U nx y:=⟨(hk.block _ (Array.getElem?_eq_some_iff.1 a.1).1).trans a.1,a.2⟩
theorem QbF.setNx (a:QbF w W p nb sb cv n D s mb h P lost) {nx:Nat} {y:Hd} (b:Qed w W nx y) (o:Nat) (v:Value):QbF w (W.setCell ⟨nx,o,none⟩ v) p nb sb cv n D s mb h P lost:=by
 have hb:=b.1;have d:=a.tn.1;have ne:∀ (j:Nat) (cs:Array Value) (t:TypeId),W.heap[j]? = some (.cells cs t (0,0))→t≠80→j≠nx:=fun j cs t e ht e2=>by
  rw [e2,hb] at e;cases e;exact ht rfl
 have oth:∀ j,j≠nx→(W.setCell ⟨nx,o,none⟩ v).heap[j]? = W.heap[j]?:=fun j hj=>Below.heap_setCell _ _ _ _ hj
 have hk:Qax w.heap.size stT W (W.setCell ⟨nx,o,none⟩ v):=(Qax.refl _ _ W).setCell hb (by decide) b.2.1 v
 obtain ⟨es,c,h1,h2⟩:=a.mp;have hmn:mb≠nx:=fun e=>by rw [e,hb] at h1;cases h1
 refine ⟨⟨⟨(oth p (ne p _ _ d.box (by decide))).trans d.box,(oth nb (ne nb _ _ d.now (by decide))).trans d.now,(oth sb (ne sb _ _ d.safe (by decide))).trans d.safe,d.ne,d.lp,d.ln,d.ls,?_,d.ok⟩,a.tn.2.trans (hk.below a.tn.2.size)⟩,(oth s (ne s _ _ a.box (by decide))).trans a.box,a.ls,a.lm,⟨es,c,(oth mb hmn).trans h1,h2.keep hk⟩,a.ok⟩
 exact Qa0 d.chg (fun b' cs e _=>oth b' (ne b' _ _ e (by decide)))
end
end
section
open Go.RowKit Go.Lib Go.Proofs.Tryz
theorem drewB (u:World):Below u.heap.size u u.drew:=⟨rfl,rfl,rfl,Nat.le_refl _,fun _ _=>rfl⟩
theorem drewK (lo:Nat) (T:List TypeId) (u:World):Qax lo T u u.drew:=.of_below (drewB u)
section
variable {w W:World} {p nb sb:Nat} {cv:Value} {n:Nat} {D:Dk} {s mb:Nat} {h:Hd} {P:List (Nat×List UInt8)} {lost:Bool}
def WpSt (w W wr:World) (p nb sb n:Nat) (D:Dk) (s mb:Nat) (h:Hd) (P:List (Nat×List UInt8)) (nx:Nat) (y:Hd) (k:Nat):Prop:=∃ cv',QbF w wr p nb sb cv' n (wpD h P D k) s mb h P false∧Qed w wr nx { y with whr:=wpW h P y.whr k }∧Qax w.heap.size stT W wr
set_option maxHeartbeats 8000000 in
theorem writePages_ok (a:QbF w W p nb sb cv n D s mb h P false) (nx:Nat) (y:Hd) (hy:Qed w W nx y) (hf:D.fail<0) (hlim:D.lim 999000) (hn:90≤n) (hn2:n≤200) (hP:∀ k l,look P k=some l→l.length≤60) :
  Calls prog 34 #[.pointer (some ⟨s,0,none⟩),.pointer (some ⟨nx,0,none⟩)] W fun e w'=>e=.returned .nilIface∧Hid (WpSt w W w' p nb sb n D.flush s mb h P nx y 40):=by
 have c0:=a.c0;have HF:Hid (Calls _ _ _ W _):=tn_flush a.tn (Qc9 hf) (by have:=hlim.s;omega)
 have hfl:D.flush.lim 999001:=⟨Nat.succ_le_succ hlim.s,by simp [Dk.flush]⟩
 have Hs:Hid (∀ U cv',Tn w U p nb sb cv' n D.flush→Qan w.heap.size dkT W U→WpSt w W U p nb sb n D.flush s mb h P nx y 0):=fun U cv' h1 h2=>⟨cv',a.disk h1 h2,hy.keeps h2,.of_keeps h2 dk_st⟩
 have Hf:Hid (∀ k,(wpD h P D.flush k).failing=false∧(k≤40→(wpD h P D.flush k).lim 999900)):=fun k=>⟨Qc9 (by rw [Qdm];exact hf),fun hk=>(wpD_lim hfl k).mono (by omega)⟩
 have HPl:Hid (∀ k l,look P k=some l→l.length≤60):=hP;have hsz:=a.tn.2.size;clear a hy hP hf hlim hfl;generalize D.flush=D1 at *
 go_enter func34,ntmps34
 go_wp2_with fail;refine HF.out.mono ?_;rintro e w1 ⟨rfl,ht1,hk1⟩;have H0:Hid (WpSt w W w1 p nb sb n D1 s mb h P nx y 0):=Hs.out w1 _ ht1.out hk1.out;clear HF Hs ht1 hk1 c0;go_wp2;go_loopw [18] (fun v wr=>∃ k:Nat,k≤40∧v=.int .i64 k∧Hid (WpSt w W wr p nb sb n D1 s mb h P nx y k)) (fun v _=>40 - (RowKit.intOf v).toNat)
 case atStart=>exact ⟨0,by omega,rfl,H0⟩
 case round=>
  obtain ⟨k,hk,rfl,H⟩:=hrel;by_cases hlt:k<40
  ·obtain ⟨cv',a,b,hkp⟩:=H.out;have cm:=a.cm;obtain ⟨v,hrun,hv,hvn⟩:=run_look a.mp k;have k0:(0:Int)≤k:=by omega
   have k1:(k:Int)<40:=by omega
   cases hq:look P k with
   | none=>
    rw [hq] at hrun;have HN:Hid (WpSt w W wr p nb sb n D1 s mb h P nx y (k+1)):=by
     refine ⟨cv',?_,?_,hkp⟩
     ·unfold wpD;rw [hq];exact a
     ·unfold wpW;rw [hq];exact b
    have hvn':=hvn hq;subst hvn';clear H a b hkp hv hvn;go_wp2;go_roundw
    case rel=>exact ⟨k+1,by omega,by go_num,HN⟩
    case measure=>simp [RowKit.intOf];omega
   | some l=>
    rw [hq] at hrun hv;obtain ⟨ad,cap,rfl,hcc,hby⟩:=hv.isBy;have hl:=HPl.out k l hq;have hFr:=free_any k (h.whr.getD k 0) wr.drew hlt;have hfb:=Qff k (h.whr.getD k 0) hlt;have hu8:=free_u8 k (h.whr.getD k 0) hlt;have cwd:wr.drew.cell? ⟨s,4+k,none⟩=some (.int .u8 ((h.whr.getD k 0).toNat:Int)):=a.cw k hlt;have cnx:wr.drew.cell? ⟨nx,3+k,none⟩=some (.int .u8 (((wpW h P y.whr k).getD k 0).toNat:Int)):=b.cw k hlt
    have fnx:wr.drew.frozen? ⟨nx,3+k,none⟩=false:=b.fz _;have a1:QbF w wr.drew p nb sb cv' n (wpD h P D1 k) s mb h P false:=a.below ⟨rfl,rfl,rfl,Nat.le_refl _,fun _ _=>rfl⟩
    have b1:Qed w wr.drew nx { y with whr:=wpW h P y.whr k }:=b.below ⟨rfl,rfl,rfl,Nat.le_refl _,fun _ _=>rfl⟩
    have a2:=a1.setNx b1 (3+k) (.int .u8 ((UInt8.ofNat (QbO k (h.whr.getD k 0))).toNat:Int));have b2:=b1.set k hlt (UInt8.ofNat (QbO k (h.whr.getD k 0)));have kp2:Qax w.heap.size stT W (wr.drew.setCell ⟨nx,3+k,none⟩ (.int .u8 ((UInt8.ofNat (QbO k (h.whr.getD k 0))).toNat:Int))):=(hkp.trans (drewK _ _ wr)).setCell b1.1 (by decide) b1.2.1 _
    have eW:wpW h P y.whr (k+1)=(wpW h P y.whr k).set k (UInt8.ofNat (QbO k (h.whr.getD k 0))):=by
     show (match look P k with | none=>wpW h P y.whr k | some l=>(wpW h P y.whr k).set k (UInt8.ofNat (QbO k (h.whr.getD k 0))))=_
     rw [hq]
    have eD:wpD h P D1 (k+1)=(wpD h P D1 k).write (QbO k (h.whr.getD k 0)) (pgB l):=by
     show (match look P k with | none=>wpD h P D1 k | some l=>(wpD h P D1 k).write (QbO k (h.whr.getD k 0)) (pgB l))=_
     rw [hq]
    rw [hu8] at a2 b2 kp2;have b2':Qed w (wr.drew.setCell ⟨nx,3+k,none⟩ (.int .u8 ((QbO k (h.whr.getD k 0):Nat):Int))) nx { y with whr:=wpW h P y.whr (k+1) }:=by rw [eW];exact b2
    have hby2:QcT (wr.drew.setCell ⟨nx,3+k,none⟩ (.int .u8 ((QbO k (h.whr.getD k 0):Nat):Int))) ad l cap:=by
     have:=(hv.keep ((Qax.refl w.heap.size stT wr).trans ((drewK w.heap.size stT wr).setCell (o:=3+k) b1.1 (by decide) b1.2.1 (.int .u8 ((QbO k (h.whr.getD k 0):Nat):Int))))).isBy
     obtain ⟨_,_,e,_,h3⟩:=this;cases e;exact h3
    obtain ⟨X,hX⟩:∃ X,QbO k (h.whr.getD k 0)=X:=⟨_,rfl⟩;rw [hX] at a2 b2' kp2 hby2 hFr hfb eD;obtain ⟨W2,hW2⟩:∃ W2,wr.drew.setCell ⟨nx,3+k,none⟩ (.int .u8 (X:Int))=W2:=⟨_,rfl⟩;rw [hW2] at a2 b2' kp2 hby2;have hWp:=writePage_any (W:=W2.drew) (a2.tn.below ⟨rfl,rfl,rfl,Nat.le_refl _,fun _ _=>rfl⟩) X ad l cap (hby2.below ⟨rfl,rfl,rfl,Nat.le_refl _,fun _ _=>rfl⟩) hcc hl (Hf.out k).1 (by omega) hn2 (by have:=((Hf.out k).2 hk).s;omega) (by have:=((Hf.out k).2 hk).c;omega)
    have HWp:Hid (Calls _ _ _ W2.drew _):=hWp;have HNext:Hid (∀ U cv2,Tn w U p nb sb cv2 n ((wpD h P D1 k).write X (pgB l))→Qan w.heap.size dkT W2.drew U→WpSt w W U p nb sb n D1 s mb h P nx y (k+1)):=fun U cv2 h1 h2=>by
     have a3:QbF w W2.drew p nb sb cv' n (wpD h P D1 k) s mb h P false:=a2.below ⟨rfl,rfl,rfl,Nat.le_refl _,fun _ _=>rfl⟩
     have b3:Qed w W2.drew nx { y with whr:=wpW h P y.whr (k+1) }:=b2'.below ⟨rfl,rfl,rfl,Nat.le_refl _,fun _ _=>rfl⟩
     exact ⟨cv2,by rw [eD];exact a3.disk h1 h2,b3.keeps h2,(kp2.trans (drewK _ _ W2)).trans (.of_keeps h2 dk_st)⟩
    have c0d:W2.drew.cell? ⟨s,0,none⟩=some (.pointer (some ⟨p,0,none⟩)):=a2.c0;have cxd:W2.drew.cell? ⟨nx,3+k,none⟩=some (.int .u8 (X:Int)):=by
     have:=b2'.cw k hlt
     rw [eW,hX] at this;have hlk:k<(wpW h P y.whr k).length:=by rw [b1.2.2.w];exact hlt
     rw [List.getD_eq_getElem?_getD,List.getElem?_set_self hlk,Option.getD_some,← hX,hu8,hX] at this;exact this
    have HFr:Hid (Calls _ _ _ wr.drew _):=hFr;generalize (h.whr.getD k 0).toNat=Y at *
    generalize ((wpW h P y.whr k).getD k 0).toNat=Z at *
    have x0:(0:Int)≤X:=by omega
    have x1:(X:Int)<256:=by omega
    have hwx:IntKind.i64.wrap (X:Int)=X:=by rw [IntKind.wrap_i64];omega
    clear H a b hkp hv hvn hby a1 b1 a2 b2 b2' kp2 eW eD hby2 hWp hFr hu8 hX;go_wp2;refine Qab (by kernel_rfl) ?_
    refine wpAny_take (i:=0) (v:=.pointer (some ⟨nx,0,none⟩)) rfl (by kernel_rfl) (by kernel_rfl) (by kernel_rfl) (fun _ _ _ h=>h) (Or.inl ⟨by rfl,fun w=>by go_simp⟩) ?_
    simp only [Act.put,zq0,zq1,zq2,zq3,zq4,zq5];refine wpAny_take (i:=1) (v:=.int .i64 k) rfl (by kernel_rfl) (by kernel_rfl) (by kernel_rfl) (fun _ _ _ h=>h) (Or.inl ⟨by rfl,fun w=>by go_simp⟩) ?_
    simp only [Act.put,zq0,zq1,zq2,zq3,zq4,zq5];refine wpAny_take (i:=2) (v:=.int .i64 k) rfl (by kernel_rfl) (by kernel_rfl) (by kernel_rfl) (fun _ _ _ h=>h) (Or.inl ⟨by rfl,fun w=>by go_simp⟩) ?_
    simp only [Act.put,zq0,zq1,zq2,zq3,zq4,zq5];refine wpAny_take (i:=3) (v:=.pointer (some ⟨s,0,none⟩)) rfl (by kernel_rfl) (by kernel_rfl) (by kernel_rfl) (fun _ _ _ h=>h) (Or.inl ⟨by rfl,fun w=>by go_simp⟩) ?_
    simp only [Act.put,zq0,zq1,zq2,zq3,zq4,zq5];refine wpAny_take (i:=4) (v:=.int .i64 k) rfl (by kernel_rfl) (by kernel_rfl) (by kernel_rfl) (fun _ _ _ h=>h) (Or.inl ⟨by rfl,fun w=>by go_simp⟩) ?_
    simp only [Act.put,zq0,zq1,zq2,zq3,zq4,zq5];refine wpAny_take (i:=5) (v:=.pointer (some ⟨s,0,none⟩)) rfl (by kernel_rfl) (by kernel_rfl) (by kernel_rfl) (fun _ _ _ h=>h) (Or.inl ⟨by rfl,fun w=>by go_simp⟩) ?_
    simp only [Act.put,zq0,zq1,zq2,zq3,zq4,zq5];refine wpAny_take (i:=6) (v:=.pointer (some ⟨s,1,none⟩)) rfl (by kernel_rfl) (by kernel_rfl) (by kernel_rfl) (fun _ _ _ h=>h) (Or.inl ⟨by rfl,fun w=>by go_simp⟩) ?_
    simp only [Act.put,zq0,zq1,zq2,zq3,zq4,zq5];refine wpAny_take (i:=7) (v:=.pointer (some ⟨s,4,none⟩)) rfl (by kernel_rfl) (by kernel_rfl) (by kernel_rfl) (fun _ _ _ h=>h) (Or.inl ⟨by rfl,fun w=>by go_simp⟩) ?_
    simp only [Act.put,zq0,zq1,zq2,zq3,zq4,zq5];refine wpAny_take (i:=8) (v:=.pointer (some ⟨s,4+k,none⟩)) rfl (by kernel_rfl) (by kernel_rfl) (by kernel_rfl) (fun _ _ _ h=>h) (Or.inl ⟨by rfl,fun w=>by go_simp⟩) ?_
    simp only [Act.put,zq0,zq1,zq2,zq3,zq4,zq5];refine wpAny_take (i:=11) (v:=.pointer (some ⟨nx,0,none⟩)) rfl (by kernel_rfl) (by kernel_rfl) (by kernel_rfl) (fun _ _ _ h=>h) (Or.inl ⟨by rfl,fun w=>by go_simp⟩) ?_
    simp only [Act.put,zq0,zq1,zq2,zq3,zq4,zq5];refine wpAny_take (i:=12) (v:=.pointer (some ⟨nx,3,none⟩)) rfl (by kernel_rfl) (by kernel_rfl) (by kernel_rfl) (fun _ _ _ h=>h) (Or.inl ⟨by rfl,fun w=>by go_simp⟩) ?_
    simp only [Act.put,zq0,zq1,zq2,zq3,zq4,zq5];refine QaD (g:=10) (T:=fun u=>u=wr.drew) _ _ _ _ ?_
    refine Qaz (i:=9) (v:=.int .u8 Y) rfl rfl (by kernel_rfl) (by decide) (by kernel_rfl) (by kernel_rfl) (by kernel_rfl) (by kernel_rfl) (fun _ _ _ h=>h) (Or.inl ⟨by rfl,fun w' hw'=>by subst hw';go_simp⟩) rfl ?_
    simp only [Act.put,zq0,zq1,zq2,zq3,zq4,zq5];refine Qhw (by kernel_rfl) (by kernel_rfl) ?_
    refine wpOp_step rfl (fun K hK=>?_)
    rw [if_pos (by rfl)]
    go_wp2_with fail;refine HFr.out.mono ?_;rintro e u ⟨rfl,hu⟩;rw [hu];refine hK _ _ ?_;clear hK K HFr hu u cwd;refine wpAny_take (i:=13) (v:=.pointer (some ⟨nx,3+k,none⟩)) rfl (by kernel_rfl) (by kernel_rfl) (by kernel_rfl) (fun _ _ _ h=>h) (Or.inl ⟨by rfl,fun w=>by go_simp⟩) ?_
    simp only [Act.put,zq0,zq1,zq2,zq3,zq4,zq5];refine Qbr (i:=14) (by kernel_rfl) ?_
    refine wpOp_step rfl ?_;intro K hK;rw [if_pos (by rfl)]
    have hK':Shut (∀ a w,_→K a w):=hK;clear hK;go_wp2;refine hK'.out _ _ ?_;clear hK' K;refine wpAny_done (by kernel_rfl) ?_ _
    try rw [hW2]
    clear cnx fnx;go_wp2;refine Qab (by kernel_rfl) ?_
    refine wpAny_take (i:=0) (v:=.pointer (some ⟨s,0,none⟩)) rfl (by kernel_rfl) (by kernel_rfl) (by kernel_rfl) (fun _ _ _ h=>h) (Or.inl ⟨by rfl,fun w=>by go_simp⟩) ?_
    simp only [Act.put,zq0,zq1,zq2,zq3,zq4,zq5];refine wpAny_take (i:=1) (v:=.pointer (some ⟨s,0,none⟩)) rfl (by kernel_rfl) (by kernel_rfl) (by kernel_rfl) (fun _ _ _ h=>h) (Or.inl ⟨by rfl,fun w=>by go_simp⟩) ?_
    simp only [Act.put,zq0,zq1,zq2,zq3,zq4,zq5];refine wpAny_take (i:=2) (v:=.pointer (some ⟨s,0,none⟩)) rfl (by kernel_rfl) (by kernel_rfl) (by kernel_rfl) (fun _ _ _ h=>h) (Or.inl ⟨by rfl,fun w=>by go_simp⟩) ?_
    simp only [Act.put,zq0,zq1,zq2,zq3,zq4,zq5];refine wpAny_take (i:=4) (v:=.pointer (some ⟨nx,0,none⟩)) rfl (by kernel_rfl) (by kernel_rfl) (by kernel_rfl) (fun _ _ _ h=>h) (Or.inl ⟨by rfl,fun w=>by go_simp⟩) ?_
    simp only [Act.put,zq0,zq1,zq2,zq3,zq4,zq5];refine wpAny_take (i:=5) (v:=.int .i64 k) rfl (by kernel_rfl) (by kernel_rfl) (by kernel_rfl) (fun _ _ _ h=>h) (Or.inl ⟨by rfl,fun w=>by go_simp⟩) ?_
    simp only [Act.put,zq0,zq1,zq2,zq3,zq4,zq5];refine wpAny_take (i:=6) (v:=.pointer (some ⟨nx,0,none⟩)) rfl (by kernel_rfl) (by kernel_rfl) (by kernel_rfl) (fun _ _ _ h=>h) (Or.inl ⟨by rfl,fun w=>by go_simp⟩) ?_
    simp only [Act.put,zq0,zq1,zq2,zq3,zq4,zq5];refine wpAny_take (i:=7) (v:=.pointer (some ⟨nx,3,none⟩)) rfl (by kernel_rfl) (by kernel_rfl) (by kernel_rfl) (fun _ _ _ h=>h) (Or.inl ⟨by rfl,fun w=>by go_simp⟩) ?_
    simp only [Act.put,zq0,zq1,zq2,zq3,zq4,zq5];refine wpAny_take (i:=8) (v:=.pointer (some ⟨nx,3+k,none⟩)) rfl (by kernel_rfl) (by kernel_rfl) (by kernel_rfl) (fun _ _ _ h=>h) (Or.inl ⟨by rfl,fun w=>by go_simp⟩) ?_
    simp only [Act.put,zq0,zq1,zq2,zq3,zq4,zq5];refine wpAny_take (i:=11) (v:=.slice ad l.length cap) rfl (by kernel_rfl) (by kernel_rfl) (by kernel_rfl) (fun _ _ _ h=>h) (Or.inl ⟨by rfl,fun w=>by go_simp⟩) ?_
    simp only [Act.put,zq0,zq1,zq2,zq3,zq4,zq5];refine QaD (g:=12) (T:=fun u=>u=W2.drew) _ _ _ _ ?_
    refine Qaz (i:=3) (v:=.pointer (some ⟨p,0,none⟩)) rfl rfl (by kernel_rfl) (by decide) (by kernel_rfl) (by kernel_rfl) (by kernel_rfl) (by kernel_rfl) (fun _ _ _ h=>h) (Or.inl ⟨by rfl,fun w' hw'=>by subst hw';go_simp⟩) rfl ?_
    simp only [Act.put,zq0,zq1,zq2,zq3,zq4,zq5];refine L_take2 (i:=9) (m:=10) (v:=.int .u8 (X:Int)) rfl rfl rfl (by kernel_rfl) (by kernel_rfl) (by decide) (by kernel_rfl) (by kernel_rfl) (by kernel_rfl) (by kernel_rfl) (by kernel_rfl) (fun _ _ _ h=>h) (Or.inl ⟨by rfl,fun w' hw'=>by subst hw';go_simp⟩) rfl ?_
    simp only [Act.put,zq0,zq1,zq2,zq3,zq4,zq5];refine Qaz (i:=10) (v:=.int .i64 X) rfl rfl (by kernel_rfl) (by decide) (by kernel_rfl) (by kernel_rfl) (by kernel_rfl) (by kernel_rfl) (fun _ _ _ h=>h) (Or.inl ⟨by rfl,fun w' hw'=>by clear hw';go_simp⟩) rfl ?_
    simp only [Act.put,zq0,zq1,zq2,zq3,zq4,zq5];refine Qhw (by kernel_rfl) (by kernel_rfl) ?_
    refine wpOp_step rfl (fun K hK=>?_)
    rw [if_pos (by rfl)]
    go_wp2_with fail;refine HWp.out.mono ?_;rintro e w5 ⟨rfl,cv5,ht5,hk5⟩;refine hK _ _ ?_;have HN:Hid (WpSt w W w5 p nb sb n D1 s mb h P nx y (k+1)):=HNext.out w5 cv5 ht5.out hk5.out;clear hK K HWp HNext ht5 hk5 c0d cxd;refine wpAny_take (i:=13) (v:=.nilIface) rfl (by kernel_rfl) (by kernel_rfl) (by kernel_rfl) (fun _ _ _ h=>h) (Or.inl ⟨by rfl,fun w=>by go_simp⟩) ?_
    simp only [Act.put,zq0,zq1,zq2,zq3,zq4,zq5];refine wpAny_done (by kernel_rfl) ?_ _
    go_wp2;go_roundw
    case rel=>exact ⟨k+1,by omega,by go_num,HN⟩
    case measure=>simp [RowKit.intOf];omega
  ·have ek:k=40:=by omega
   subst ek;go_wp2;go_ret;exact ⟨rfl,H⟩
end
end
section
open Go.RowKit Go.Lib Go.Proofs.Tryz
section
variable {w W:World} {p nb sb:Nat} {cv:Value} {n:Nat} {D:Dk} {s mb:Nat} {h:Hd} {P:List (Nat×List UInt8)} {lost:Bool}
def nxH (h:Hd) (P:List (Nat×List UInt8)):Hd:=⟨1 - h.blk,h.turn+1,h.ver+1,wpW h P h.whr 40⟩
def nxD (D:Dk) (h:Hd) (P:List (Nat×List UInt8)):Dk:=(hwR (wpD h P D.flush 40) (nxH h P)).2
theorem neg_flR {D:Dk} (hf:D.fail<0):flR D=(0,D.flush):=by unfold flR;rw [if_neg (by rw [Qc9 hf];decide)]
theorem neg_wrR {D:Dk} (hf:D.fail<0) (i:Nat) (l:List UInt8):wrR D i l=(0,D.write i l):=by unfold wrR;rw [if_neg (by rw [Qc9 hf];decide)]
theorem Qfv {D:Dk} (hf:D.fail<0) (h:Hd):hwR D h=(0,(D.flush.write h.blk (hdB h)).flush):=by
 unfold hwR;simp only;rw [neg_flR hf,if_pos rfl,neg_wrR (by exact hf),if_pos rfl,neg_flR (by exact hf)]
theorem Qed.set3 {nx:Nat} {y:Hd} (a:Qed w W nx y) (b:Nat) (hb:b≤1) (t:UInt8) (v:Nat) (hv:v≤1000000):Qed w (((W.setCell ⟨nx,0,none⟩ (.int .i64 (b:Int))).setCell ⟨nx,1,none⟩ (.int .u8 (t.toNat:Int))).setCell ⟨nx,2,none⟩ (.int .i64 (v:Int))) nx ⟨b,t,v,y.whr⟩:=by
 have h1:(W.setCell ⟨nx,0,none⟩ (.int .i64 (b:Int))).heap[nx]? = some (.cells (Hd.mk b y.turn y.ver y.whr).cells.toArray 80 (0,0)):=by
  rw [setCell_eq_setRow W nx _ _ _ (0,0) _ a.1,setRow_heap W nx _ _ _ (0,0) a.1];simp [Hd.cells]
 have h2:((W.setCell ⟨nx,0,none⟩ (.int .i64 (b:Int))).setCell ⟨nx,1,none⟩ (.int .u8 (t.toNat:Int))).heap[nx]? = some (.cells (Hd.mk b t y.ver y.whr).cells.toArray 80 (0,0)):=by
  rw [setCell_eq_setRow _ nx _ _ _ (0,0) _ h1,setRow_heap _ nx _ _ _ (0,0) h1];simp [Hd.cells]
 refine ⟨?_,a.2.1,⟨hb,hv,a.2.2.w⟩⟩;rw [setCell_eq_setRow _ nx _ _ _ (0,0) _ h2,setRow_heap _ nx _ _ _ (0,0) h2];simp [Hd.cells]
theorem QbF.setBox (a:QbF w W p nb sb cv n D s mb h P lost) (h':Hd) (k':h'.ok):(Instr.storeAt 80 (.pointer (some ⟨s,1,none⟩)) (.agg h'.cells.toArray)).run prog W=.ok () (W.setRow s (Qaw p h' mb lost).toArray)∧QbF w (W.setRow s (Qaw p h' mb lost).toArray) p nb sb cv n D s mb h' P lost∧Qax w.heap.size stT W (W.setRow s (Qaw p h' mb lost).toArray):=by
 have hk:Qax w.heap.size stT W (W.setRow s (Qaw p h' mb lost).toArray):=(Qax.refl _ _ W).setRow a.box (by decide) a.ls _
 have d:=a.tn.1;have ne:∀ (j:Nat) (cs:Array Value) (t:TypeId),W.heap[j]? = some (.cells cs t (0,0))→t≠85→j≠s:=fun j cs t e ht e2=>by
  rw [e2,a.box] at e;cases e;exact ht rfl
 have oth:∀ j,j≠s→(W.setRow s (Qaw p h' mb lost).toArray).heap[j]? = W.heap[j]?:=fun j hj=>setRow_other _ _ _ _ hj
 obtain ⟨es,c,h1,h2⟩:=a.mp;refine ⟨?_,⟨⟨⟨(oth p (ne p _ _ d.box (by decide))).trans d.box,(oth nb (ne nb _ _ d.now (by decide))).trans d.now,(oth sb (ne sb _ _ d.safe (by decide))).trans d.safe,d.ne,d.lp,d.ln,d.ls,Qa0 d.chg (fun b' cs e _=>oth b' (ne b' _ _ e (by decide))),d.ok⟩,a.tn.2.trans (hk.below a.tn.2.size)⟩,setRow_heap W s _ _ _ (0,0) a.box,a.ls,a.lm,⟨es,c,(oth mb (fun e=>a.ne e.symm)).trans h1,h2.keep hk⟩,k'⟩,hk⟩
 have:=QiH (u:=W) (o:=1) k' a.box (by rw [Qim a.ok];omega)
 rw [this];congr 3;unfold Qaw;rw [List.take_succ_cons,List.take_zero,List.drop_succ_cons,List.drop_append_of_le_length (by rw [Hd.cells_length a.ok];exact Nat.le_refl _),List.drop_eq_nil_of_le (by rw [Hd.cells_length a.ok];exact Nat.le_refl _)]
 simp
end
end
section
open Go.RowKit Go.Lib Go.Proofs.Tryz
section
variable {w W:World} {p nb sb:Nat} {cv:Value} {n:Nat} {D:Dk} {s mb:Nat} {h:Hd} {P:List (Nat×List UInt8)} {lost:Bool}
set_option maxHeartbeats 8000000 in
theorem commit_ok (a:QbF w W p nb sb cv n D s mb h P false) (hf:D.fail<0) (hlim:D.lim 998000) (hn:90≤n) (hn2:n≤200) (hP:∀ k l,look P k=some l→l.length≤60) (hv:h.ver+1≤1000000) :
  Calls prog 11 #[.pointer (some ⟨s,0,none⟩)] W fun e w'=>e=.returned .nilIface∧∃ cv',Hid (QbF w w' p nb sb cv' n (nxD D h P) s mb (nxH h P) [] false)∧Hid (Qax w.heap.size stT W w'):=by
 have cl:=a.cl;have k:=a.ok;have hld0:=Qa5 k a.range;have hal:=Qb1;obtain ⟨nx,hnx⟩:∃ nx,W.heap.size=nx:=⟨_,rfl⟩;obtain ⟨V0,hV0⟩:∃ V0,W.alloc (.cells h.cells.toArray 80)=V0:=⟨_,rfl⟩;have hst0:=run_storeAt_new (P:=prog) W 80 hd0.cells.toArray h.cells.toArray (by rw [List.size_toArray,Hd.cells_length k];exact QbT) (by rw [List.size_toArray,List.size_toArray,Hd.cells_length Qb5,Hd.cells_length k]) (all_oneCell_toArray (Hd.cells_one _))
 rw [hV0] at hst0;have hbV:Below W.heap.size W V0:=by rw [← hV0];exact (Below.refl _ W).alloc (Nat.le_refl _) _
 have a0:QbF w V0.drew p nb sb cv n D s mb h P false:=(a.below hbV).below (drewB V0);have b0:Qed w V0.drew nx h:=by
  refine ⟨?_,by rw [← hnx];exact a.tn.2.size,k⟩
  show V0.heap[nx]? = _;rw [← hV0,← hnx];exact Qai W _
 have K0:Qax w.heap.size stT W V0.drew:=(Qax.of_below hbV).trans (drewK _ _ V0);have HO:Hid (∀ U,Calls _ _ _ U _):=fun U=>other_any h U k
 have HT:Hid (∀ u:World,u.heap[s]? = some (.cells (Qaw p h mb false).toArray 85 (0,0))→u.cell? ⟨s,2,none⟩=some (.int .u8 (h.turn.toNat:Int))∧u.cell? ⟨s,3,none⟩=some (.int .i64 (h.ver:Int))∧(Instr.loadAt 80 (.pointer (some ⟨s,1,none⟩))).run prog u=.ok (.agg h.cells.toArray) u):=fun u hu=>by
  refine ⟨by rw [cell_of_row u _ _ _ _ (0,0) hu];rfl,by rw [cell_of_row u _ _ _ _ (0,0) hu];rfl,Qa5 k ?_⟩
  intro j v hv;rw [cell_of_row u _ _ _ _ (0,0) hu,List.getElem?_toArray];unfold Qaw;rw [Nat.add_comm 1 j,List.getElem?_cons_succ,List.getElem?_append_left ((List.getElem?_eq_some_iff.1 hv).1)];exact hv
 have ht1:=turn_add h.turn;have tl:=UInt8.toNat_lt h.turn;have t0:(0:Int)≤(h.turn.toNat:Int):=by omega
 have t1:(h.turn.toNat:Int)<256:=by omega
 have v0:(0:Int)≤(h.ver:Int):=by omega
 have v1:(h.ver:Int)≤999999:=by omega
 have hbl:=k.b;have hwv:IntKind.i64.wrap ((h.ver:Int)+1)=(h.ver:Int)+1:=by rw [IntKind.wrap_i64];omega
 -- what the rest asks
 have HR:Hid (∀ U,QbF w U p nb sb cv n D s mb h P false→Qed w U nx ⟨1 - h.blk,h.turn+1,h.ver+1,h.whr⟩→Qax w.heap.size stT W U→Calls prog 34 #[.pointer (some ⟨s,0,none⟩),.pointer (some ⟨nx,0,none⟩)] U fun e w'=>e=.returned .nilIface∧Hid (∃ cv2,QbF w w' p nb sb cv2 n (wpD h P D.flush 40) s mb h P false∧Qed w w' nx (nxH h P)∧Qax w.heap.size stT W w')):=fun U hU hN hK=>by
  refine (writePages_ok hU nx _ hN hf (hlim.mono (by omega)) hn hn2 hP).mono ?_
  rintro e w' ⟨rfl,hh⟩;obtain ⟨cv2,q1,q2,q3⟩:=hh.out;exact ⟨rfl,cv2,q1,q2,hK.trans q3⟩
 have HWr:Hid (∀ U cv2,Tn w U p nb sb cv2 n (wpD h P D.flush 40)→Calls prog 31 #[.agg (nxH h P).cells.toArray,.pointer (some ⟨p,0,none⟩)] U fun e w'=>e=.returned .nilIface∧∃ cv',Hid (Tn w w' p nb sb cv' n (nxD D h P))∧Hid (Qan w.heap.size dkT U w')):=fun U cv2 hU=>by
  have hf2:(wpD h P D.flush 40).fail<0:=by rw [Qdm];exact hf
  have kn:(nxH h P).ok:=⟨by unfold nxH;simp,hv,by unfold nxH;rw [QfE];exact k.w⟩
  refine (QiZ hU (nxH h P) kn hn2 (by omega) ((wpD_lim (j:=998001) ⟨Nat.succ_le_succ hlim.s,by simp [Dk.flush]⟩ 40).mono (by omega))).mono ?_
  rintro e w' ⟨rfl,h1⟩;refine ⟨?_,h1⟩;rw [Qfv hf2];rfl
 have Hst:Hid (QbF w V0.drew p nb sb cv n D s mb h P false∧Qed w V0.drew nx h∧Qax w.heap.size stT W V0.drew):=⟨a0,b0,K0⟩;have Ha0:Hid (V0.drew.heap[s]? = some (.cells (Qaw p h mb false).toArray 85 (0,0))):=a0.box;clear a a0 b0 K0 hbV hf hlim hP tl;obtain ⟨C0,hC0⟩:∃ C0,hd0.cells.toArray=C0:=⟨_,rfl⟩;rw [hC0] at hal hst0;clear hC0;obtain ⟨A0,hA0⟩:∃ A0,h.cells.toArray=A0:=⟨_,rfl⟩;rw [hA0] at hst0 hld0 HT HO
 go_enter func11,ntmps11
 go_wp2_with (first | (refine Qao rfl 80 _ rfl _ (by rfl) hld0 ?_) | (refine Qae rfl 80 rfl (hal _) ?_) | (refine Qac rfl 80 _ _ rfl _ _ (by rfl) (by rfl) hst0 ?_))
 refine Qab (by kernel_rfl) ?_
 clear hV0 hld0 hst0 hal hA0;refine wpAny_take (i:=0) (v:=.pointer (some ⟨s,0,none⟩)) rfl (by kernel_rfl) (by kernel_rfl) (by kernel_rfl) (fun _ _ _ h=>h) (Or.inl ⟨by rfl,fun w=>by go_simp⟩) ?_
 simp only [Act.put,zq0,zq1,zq2,zq3,zq4,zq5];refine wpAny_take (i:=1) (v:=.pointer (some ⟨s,0,none⟩)) rfl (by kernel_rfl) (by kernel_rfl) (by kernel_rfl) (fun _ _ _ h=>h) (Or.inl ⟨by rfl,fun w=>by go_simp⟩) ?_
 simp only [Act.put,zq0,zq1,zq2,zq3,zq4,zq5];refine wpAny_take (i:=2) (v:=.pointer (some ⟨s,1,none⟩)) rfl (by kernel_rfl) (by kernel_rfl) (by kernel_rfl) (fun _ _ _ h=>h) (Or.inl ⟨by rfl,fun w=>by go_simp⟩) ?_
 simp only [Act.put,zq0,zq1,zq2,zq3,zq4,zq5];refine wpAny_take (i:=5) (v:=.pointer (some ⟨s,0,none⟩)) rfl (by kernel_rfl) (by kernel_rfl) (by kernel_rfl) (fun _ _ _ h=>h) (Or.inl ⟨by rfl,fun w=>by go_simp⟩) ?_
 simp only [Act.put,zq0,zq1,zq2,zq3,zq4,zq5];refine wpAny_take (i:=6) (v:=.pointer (some ⟨s,0,none⟩)) rfl (by kernel_rfl) (by kernel_rfl) (by kernel_rfl) (fun _ _ _ h=>h) (Or.inl ⟨by rfl,fun w=>by go_simp⟩) ?_
 simp only [Act.put,zq0,zq1,zq2,zq3,zq4,zq5];refine wpAny_take (i:=7) (v:=.pointer (some ⟨s,1,none⟩)) rfl (by kernel_rfl) (by kernel_rfl) (by kernel_rfl) (fun _ _ _ h=>h) (Or.inl ⟨by rfl,fun w=>by go_simp⟩) ?_
 simp only [Act.put,zq0,zq1,zq2,zq3,zq4,zq5];refine wpAny_take (i:=8) (v:=.pointer (some ⟨s,2,none⟩)) rfl (by kernel_rfl) (by kernel_rfl) (by kernel_rfl) (fun _ _ _ h=>h) (Or.inl ⟨by rfl,fun w=>by go_simp⟩) ?_
 simp only [Act.put,zq0,zq1,zq2,zq3,zq4,zq5];refine wpAny_take (i:=11) (v:=.pointer (some ⟨s,0,none⟩)) rfl (by kernel_rfl) (by kernel_rfl) (by kernel_rfl) (fun _ _ _ h=>h) (Or.inl ⟨by rfl,fun w=>by go_simp⟩) ?_
 simp only [Act.put,zq0,zq1,zq2,zq3,zq4,zq5];refine wpAny_take (i:=12) (v:=.pointer (some ⟨s,0,none⟩)) rfl (by kernel_rfl) (by kernel_rfl) (by kernel_rfl) (fun _ _ _ h=>h) (Or.inl ⟨by rfl,fun w=>by go_simp⟩) ?_
 simp only [Act.put,zq0,zq1,zq2,zq3,zq4,zq5];refine wpAny_take (i:=13) (v:=.pointer (some ⟨s,1,none⟩)) rfl (by kernel_rfl) (by kernel_rfl) (by kernel_rfl) (fun _ _ _ h=>h) (Or.inl ⟨by rfl,fun w=>by go_simp⟩) ?_
 simp only [Act.put,zq0,zq1,zq2,zq3,zq4,zq5];refine wpAny_take (i:=14) (v:=.pointer (some ⟨s,3,none⟩)) rfl (by kernel_rfl) (by kernel_rfl) (by kernel_rfl) (fun _ _ _ h=>h) (Or.inl ⟨by rfl,fun w=>by go_simp⟩) ?_
 simp only [Act.put,zq0,zq1,zq2,zq3,zq4,zq5];refine QaD (g:=22) (T:=fun u=>u.heap[s]? = some (.cells (Qaw p h mb false).toArray 85 (0,0))) _ _ _ _ ?_
 refine Qaz (i:=3) (v:=.agg A0) rfl rfl (by kernel_rfl) (by decide) (by kernel_rfl) (by kernel_rfl) (by kernel_rfl) (by kernel_rfl) (fun _ _ _ h=>h) ?_ Ha0.out ?_
 ·refine QaQ (by rfl) 80 (.tmp 16) (by rfl) (.pointer (some ⟨s,1,none⟩)) (by rfl) ?_
  exact fun u hu=>(HT.out u hu).2.2
 simp only [Act.put,zq0,zq1,zq2,zq3,zq4,zq5];refine Qaz (i:=9) (v:=.int .u8 (h.turn.toNat:Int)) rfl rfl (by kernel_rfl) (by decide) (by kernel_rfl) (by kernel_rfl) (by kernel_rfl) (by kernel_rfl) (fun _ _ _ h=>h) (Or.inl ⟨by rfl,fun w' hw'=>by have c0:=(HT.out w' hw').1;clear hw';go_simp⟩) Ha0.out ?_
 simp only [Act.put,zq0,zq1,zq2,zq3,zq4,zq5];refine Qaz (i:=10) (v:=.int .u8 (((h.turn.toNat:Int)+1) % 256)) rfl rfl (by kernel_rfl) (by decide) (by kernel_rfl) (by kernel_rfl) (by kernel_rfl) (by kernel_rfl) (fun _ _ _ h=>h) (Or.inl ⟨by rfl,fun w' hw'=>by clear hw';go_simp;rw [IntKind.wrap_u8]⟩) Ha0.out ?_
 simp only [Act.put,zq0,zq1,zq2,zq3,zq4,zq5];refine Qaz (i:=15) (v:=.int .i64 (h.ver:Int)) rfl rfl (by kernel_rfl) (by decide) (by kernel_rfl) (by kernel_rfl) (by kernel_rfl) (by kernel_rfl) (fun _ _ _ h=>h) (Or.inl ⟨by rfl,fun w' hw'=>by have c0:=(HT.out w' hw').2.1;clear hw';go_simp⟩) Ha0.out ?_
 simp only [Act.put,zq0,zq1,zq2,zq3,zq4,zq5];refine Qaz (i:=16) (v:=.int .i64 ((h.ver:Int)+1)) rfl rfl (by kernel_rfl) (by decide) (by kernel_rfl) (by kernel_rfl) (by kernel_rfl) (by kernel_rfl) (fun _ _ _ h=>h) (Or.inl ⟨by rfl,fun w' hw'=>by clear hw';go_simp⟩) Ha0.out ?_
 simp only [Act.put,zq0,zq1,zq2,zq3,zq4,zq5];refine Qic (i:=4) (by kernel_rfl) ?_
 refine wpOp_step rfl (fun K hK=>?_)
 rw [if_pos (by rfl)]
 go_wp2_with fail;refine (HO.out _).mono ?_;rintro e U1 ⟨rfl,hb1⟩;have a1:QbF w U1 p nb sb cv n D s mb h P false:=Hst.out.1.below hb1;have b1:Qed w U1 nx h:=Hst.out.2.1.below hb1;have K1:Qax w.heap.size stT W U1:=Hst.out.2.2.trans (.of_below hb1);have b4:=b1.set3 (1 - h.blk) (by omega) (h.turn+1) (h.ver+1) hv
 have q1:Qed w (U1.setCell ⟨nx,0,none⟩ (.int .i64 ((1 - h.blk:Nat):Int))) nx ⟨1 - h.blk,h.turn,h.ver,h.whr⟩:=by
  refine ⟨?_,b1.2.1,⟨by show 1 - h.blk≤1;omega,b1.2.2.v,b1.2.2.w⟩⟩
  rw [setCell_eq_setRow U1 nx _ _ _ (0,0) _ b1.1,setRow_heap U1 nx _ _ _ (0,0) b1.1];simp [Hd.cells]
 have q2:Qed w ((U1.setCell ⟨nx,0,none⟩ (.int .i64 ((1 - h.blk:Nat):Int))).setCell ⟨nx,1,none⟩ (.int .u8 ((h.turn+1).toNat:Int))) nx ⟨1 - h.blk,h.turn+1,h.ver,h.whr⟩:=by
  refine ⟨?_,b1.2.1,⟨by show 1 - h.blk≤1;omega,b1.2.2.v,b1.2.2.w⟩⟩
  rw [setCell_eq_setRow _ nx _ _ _ (0,0) _ q1.1,setRow_heap _ nx _ _ _ (0,0) q1.1];simp [Hd.cells]
 have a4:=((a1.setNx b1 0 (.int .i64 ((1 - h.blk:Nat):Int))).setNx q1 1 (.int .u8 ((h.turn+1).toNat:Int))).setNx q2 2 (.int .i64 ((h.ver+1:Nat):Int));have K4:=((K1.setCell (o:=0) b1.1 (by decide) b1.2.1 (.int .i64 ((1 - h.blk:Nat):Int))).setCell (o:=1) q1.1 (by decide) q1.2.1 (.int .u8 ((h.turn+1).toNat:Int))).setCell (o:=2) q2.1 (by decide) q2.2.1 (.int .i64 ((h.ver+1:Nat):Int))
 have c0:U1.cell? ⟨nx,0,none⟩=some (.int .i64 (h.blk:Int)):=by rw [cell_of_row U1 _ _ _ _ (0,0) b1.1];rfl
 have f0:=b1.fz 0;have c1:(U1.setCell ⟨nx,0,none⟩ (.int .i64 ((1 - h.blk:Nat):Int))).cell? ⟨nx,1,none⟩=some (.int .u8 (h.turn.toNat:Int)):=by rw [cell_of_row _ _ _ _ _ (0,0) q1.1];rfl
 have f1:=q1.fz 1;have c2:((U1.setCell ⟨nx,0,none⟩ (.int .i64 ((1 - h.blk:Nat):Int))).setCell ⟨nx,1,none⟩ (.int .u8 ((h.turn+1).toNat:Int))).cell? ⟨nx,2,none⟩=some (.int .i64 (h.ver:Int)):=by rw [cell_of_row _ _ _ _ _ (0,0) q2.1];rfl
 have f2:=q2.fz 2;rw [ht1] at a4 b4 K4 c2 f2;have ev:((h.ver+1:Nat):Int)=(h.ver:Int)+1:=by omega
 rw [ev] at a4 b4 K4;have H4:Hid (_∧_∧_):=⟨a4,b4,K4⟩;have TB1:Hid (U1.heap[s]? = some (.cells (Qaw p h mb false).toArray 85 (0,0))):=a1.box;have TB2:Hid ((U1.setCell ⟨nx,0,none⟩ (.int .i64 ((1 - h.blk:Nat):Int))).heap[s]? = some (.cells (Qaw p h mb false).toArray 85 (0,0))):=(a1.setNx b1 0 _).box;have TB3:Hid (((U1.setCell ⟨nx,0,none⟩ (.int .i64 ((1 - h.blk:Nat):Int))).setCell ⟨nx,1,none⟩ (.int .u8 (((h.turn.toNat:Int)+1) % 256))).heap[s]? = some (.cells (Qaw p h mb false).toArray 85 (0,0))):=by rw [← ht1];exact ((a1.setNx b1 0 _).setNx q1 1 _).box
 refine hK _ _ ⟨a1.box,?_⟩;clear hK K a1 b1 K1 a4 b4 K4 q1 q2 hb1 Hst ev;generalize ((1 - h.blk:Nat):Int)=bb at *
 refine Qaz (i:=17) (v:=.pointer (some ⟨nx,0,none⟩)) rfl rfl (by kernel_rfl) (by decide) (by kernel_rfl) (by kernel_rfl) (by kernel_rfl) (by kernel_rfl) (fun _ _ _ h=>h) (Or.inl ⟨by rfl,fun w' hw'=>by clear hw';go_simp⟩) TB1.out ?_
 try simp only [Act.put,zq0,zq1,zq2,zq3,zq4,zq5]
 refine Qic (i:=18) (by kernel_rfl) ?_
 refine wpOp_step rfl ?_;intro K hK;rw [if_pos (by rfl)]
 have hK':Shut (∀ a w,_→K a w):=hK;clear hK;go_wp2;refine hK'.out _ _ ⟨TB2.out,?_⟩;clear hK' K;generalize U1.setCell ⟨nx,0,none⟩ (.int .i64 bb)=U2 at *
 refine Qaz (i:=19) (v:=.pointer (some ⟨nx,1,none⟩)) rfl rfl (by kernel_rfl) (by decide) (by kernel_rfl) (by kernel_rfl) (by kernel_rfl) (by kernel_rfl) (fun _ _ _ h=>h) (Or.inl ⟨by rfl,fun w' hw'=>by clear hw';go_simp⟩) TB2.out ?_
 try simp only [Act.put,zq0,zq1,zq2,zq3,zq4,zq5]
 refine Qic (i:=20) (by kernel_rfl) ?_
 refine wpOp_step rfl ?_;intro K hK;rw [if_pos (by rfl)]
 have hK':Shut (∀ a w,_→K a w):=hK;clear hK;go_wp2;refine hK'.out _ _ ⟨TB3.out,?_⟩;clear hK' K;generalize U2.setCell ⟨nx,1,none⟩ (.int .u8 (((h.turn.toNat:Int)+1) % 256))=U3 at *
 refine Qaz (i:=21) (v:=.pointer (some ⟨nx,2,none⟩)) rfl rfl (by kernel_rfl) (by decide) (by kernel_rfl) (by kernel_rfl) (by kernel_rfl) (by kernel_rfl) (fun _ _ _ h=>h) (Or.inl ⟨by rfl,fun w' hw'=>by clear hw';go_simp⟩) TB3.out ?_
 try simp only [Act.put,zq0,zq1,zq2,zq3,zq4,zq5]
 refine Qhw (by kernel_rfl) (by kernel_rfl) ?_
 refine wpOp_step rfl ?_;intro K hK;rw [if_pos (by rfl)]
 have hK':Shut (∀ a w,_→K a w):=hK;clear hK;go_wp2;refine hK'.out _ _ ?_;clear hK' K;generalize U3.setCell ⟨nx,2,none⟩ (.int .i64 ((h.ver:Int)+1))=U4 at *
 refine wpAny_done (by kernel_rfl) ?_ _
 have HWp:Hid (Calls _ _ _ U4 _):=HR.out U4 H4.out.1 H4.out.2.1 H4.out.2.2;clear HR H4 c0 f0 c1 f1 c2 f2;go_wp2_with fail;refine HWp.out.mono ?_;rintro e U5 ⟨rfl,hh⟩;obtain ⟨cv5,a5,b5,K5⟩:=hh.out;clear HWp hh;have H5:Hid (QbF w U5 p nb sb cv5 n (wpD h P D.flush 40) s mb h P false∧Qed w U5 nx (nxH h P)∧Qax w.heap.size stT W U5):=⟨a5,b5,K5⟩;have HWc:Hid (Calls _ _ _ U5.drew _):=HWr.out U5.drew cv5 (a5.tn.below (drewB U5))
 have c50:U5.drew.cell? ⟨s,0,none⟩=some (.pointer (some ⟨p,0,none⟩)):=a5.c0;have hld5:(Instr.loadAt 80 (.pointer (some ⟨nx,0,none⟩))).run prog U5.drew=.ok (.agg (nxH h P).cells.toArray) U5.drew:=Qa5 b5.2.2 (QdG b5.1);have kn:=b5.2.2;generalize hY:nxH h P=Y at *
 clear a5 b5 K5 HWr;go_wp2;refine Qab (by kernel_rfl) ?_
 refine wpAny_take (i:=1) (v:=.pointer (some ⟨s,0,none⟩)) rfl (by kernel_rfl) (by kernel_rfl) (by kernel_rfl) (fun _ _ _ h=>h) (Or.inl ⟨by rfl,fun w=>by go_simp⟩) ?_
 simp only [Act.put,zq0,zq1,zq2,zq3,zq4,zq5];refine wpAny_take (i:=2) (v:=.pointer (some ⟨s,0,none⟩)) rfl (by kernel_rfl) (by kernel_rfl) (by kernel_rfl) (fun _ _ _ h=>h) (Or.inl ⟨by rfl,fun w=>by go_simp⟩) ?_
 simp only [Act.put,zq0,zq1,zq2,zq3,zq4,zq5];refine wpAny_take (i:=3) (v:=.pointer (some ⟨s,0,none⟩)) rfl (by kernel_rfl) (by kernel_rfl) (by kernel_rfl) (fun _ _ _ h=>h) (Or.inl ⟨by rfl,fun w=>by go_simp⟩) ?_
 simp only [Act.put,zq0,zq1,zq2,zq3,zq4,zq5];refine QaD (g:=5) (T:=fun u=>u=U5.drew) _ _ _ _ ?_
 refine Qaz (i:=0) (v:=.agg Y.cells.toArray) rfl rfl (by kernel_rfl) (by decide) (by kernel_rfl) (by kernel_rfl) (by kernel_rfl) (by kernel_rfl) (fun _ _ _ h=>h) ?_ rfl ?_
 ·refine QaQ (by rfl) 80 (.tmp 3) (by rfl) (.pointer (some ⟨nx,0,none⟩)) (by rfl) ?_
  exact (fun u hu=>by subst hu;exact hld5)
 simp only [Act.put,zq0,zq1,zq2,zq3,zq4,zq5];refine Qaz (i:=4) (v:=.pointer (some ⟨p,0,none⟩)) rfl rfl (by kernel_rfl) (by decide) (by kernel_rfl) (by kernel_rfl) (by kernel_rfl) (by kernel_rfl) (fun _ _ _ h=>h) (Or.inl ⟨by rfl,fun w' hw'=>by subst hw';go_simp⟩) rfl ?_
 simp only [Act.put,zq0,zq1,zq2,zq3,zq4,zq5];refine Qhw (by kernel_rfl) (by kernel_rfl) ?_
 refine wpOp_step rfl (fun K hK=>?_)
 rw [if_pos (by rfl)]
 go_wp2_with fail;refine HWc.out.mono ?_;rintro e U6 ⟨rfl,cv6,ht6,hk6⟩;refine hK _ _ ?_;have a6:QbF w U6 p nb sb cv6 n (nxD D h P) s mb h P false:=(H5.out.1.below (drewB U5)).disk ht6.out hk6.out;have b6:Qed w U6 nx Y:=(H5.out.2.1.below (drewB U5)).keeps hk6.out;have K6:Qax w.heap.size stT W U6:=(H5.out.2.2.trans (drewK _ _ U5)).trans (.of_keeps hk6.out dk_st);have HRb:Hid (Calls _ _ _ U6 _):=rollback_any a6
 have H6:Hid (QbF w U6 p nb sb cv6 n (nxD D h P) s mb h P false∧Qed w U6 nx Y∧Qax w.heap.size stT W U6):=⟨a6,b6,K6⟩;clear hK K HWc ht6 hk6 H5 a6 b6 K6 c50 hld5;refine wpAny_take (i:=6) (v:=.nilIface) rfl (by kernel_rfl) (by kernel_rfl) (by kernel_rfl) (fun _ _ _ h=>h) (Or.inl ⟨by rfl,fun w=>by go_simp⟩) ?_
 simp only [Act.put,zq0,zq1,zq2,zq3,zq4,zq5];refine wpAny_done (by kernel_rfl) ?_ _
 go_wp2_with fail;refine HRb.out.mono ?_;rintro e U7 ⟨rfl,a7,K7,ho7⟩;obtain ⟨es,mc,hmb,_⟩:=H6.out.1.mp;have b7:Qed w U7 nx Y:=by
  refine ⟨?_,H6.out.2.1.2⟩;rw [ho7.out nx (fun e=>by have:=H6.out.2.1.1;rw [e,hmb] at this;cases this)]
  exact H6.out.2.1.1
 have hld7:=Qa5 (o:=0) b7.2.2 (QdG b7.1);obtain ⟨hst7,a8,K8⟩:=a7.out.setBox Y kn;have HE:Hid (QbF w (U7.setRow s (Qaw p Y mb false).toArray) p nb sb cv6 n (nxD D h P) s mb Y [] false∧Qax w.heap.size stT W (U7.setRow s (Qaw p Y mb false).toArray)):=⟨a8,(H6.out.2.2.trans K7.out).trans K8⟩;clear HRb H6 a7 K7 ho7 b7 a8 K8 hmb;generalize (P.length:Int)=PL at *
 go_wp2_with (first | (refine Qao rfl 80 _ rfl _ (by rfl) hld7 ?_) | (refine Qac rfl 80 _ _ rfl _ _ (by rfl) (by rfl) hst7 ?_))
 go_ret;refine ⟨rfl,cv6,?_,HE.out.2⟩;rw [hY];exact HE.out.1
end
end
end Go.Proofs.YtjifbbdkpanagaaGreatDoor
