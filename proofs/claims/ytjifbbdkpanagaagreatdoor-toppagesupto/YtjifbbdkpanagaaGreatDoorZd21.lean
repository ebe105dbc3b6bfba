/-
  Part of a proof (see the last text).
-/
import Derived.Test.YtjifbbdkpanagaaGreatDoorZd7
set_option linter.unusedVariables false
set_option linter.unusedSimpArgs false
set_option maxRecDepth 100000
namespace Go.Proofs.YtjifbbdkpanagaaGreatDoor
section
open Go.RowKit Go.Lib Go.Proofs.Tryz
theorem cinfo_Rt:(prog.info? 116).map (fun i=>(i.zero,i.size,i.bytes))=some (some (.agg #[.string ByteArray.empty,.string ByteArray.empty,.int .i64 0,.int .i64 0,.int .i64 0]),5,56):=by kernel_rfl
theorem clone_Rt (a:Option Addr) (n cap:Nat) (row:List Value) (w:World) (hlen:row.length=n*5) (hone:∀ u∈row,u.oneCell'=true) (hsrc:n≠0→∃ x:Addr,a=some x∧x.block<w.heap.size∧∀ j u,row[j]? = some u→w.cell? (x.add j)=some u) (hn:n≤1000) :
  Calls prog 48 #[.slice a n cap] w fun e w'=>∃ a' c',e=.returned (.slice a' n c')∧w'.ownsRow w.heap.size 116 5 (.slice a' n c') n row∧Below w.heap.size w w':=by
 have q35:∀ (w:World) (a:Option Addr) (n c n' c':Nat),(binOp .eql 104 (.slice a n c) (.slice none n' c')).run prog w=.ok (.bool a.isNone) w:=fun w a n c n' c'=>Lib.run_eql_slice_nil w _ _ a n c n' c' underlying104
 cases a with
 | none=>
  have h0:n=0:=by
   by_cases h:n=0
   ·exact h
   ·obtain ⟨x,hx,_⟩:=hsrc h;cases hx
  subst h0;have hr:row=[]:=List.eq_nil_of_length_eq_zero (by rw [hlen])
  subst hr;clear hsrc hlen hone;go_enter func48,ntmps48
  go_wp2;go_ret;exact ⟨_,_,rfl,World.ownsRow_nil _ _ _ _,Below.refl _ _⟩
 | some x=>
  have B1:Below w.heap.size w (w.alloc (.cells #[] 116)):=(Below.refl _ w).alloc (Nat.le_refl _) _;have HS:Hid (∀ j u,row[j]? = some u→(w.alloc (.cells #[] 116)).cell? (x.add j)=some u):=fun j u h=>by
   have hne:n≠0:=fun e=>by
    subst e
    have:row=[]:=List.eq_nil_of_length_eq_zero (by rw [hlen])
    rw [this] at h;simp at h
   obtain ⟨x',hx',hlt,hc⟩:=hsrc hne;cases hx';rw [B1.cell (p:=x.add j) (by unfold Addr.add;split <;> exact hlt)]
   exact hc j u h
  have Hm1:Hid (0+n≤maxLen):=by unfold Hid maxLen;omega
  have Hm2:Hid ((0+n)*56≤140737488355328):=by unfold Hid;omega
  have Hm3:Hid (w.heap.size≤(w.alloc (.cells #[] 116)).heap.size):=by unfold Hid;simp
  have HRw:Hid (World.ownsRow (w.alloc (.cells #[] 116)) w.heap.size 116 5 (.slice (some ⟨w.heap.size,0,none⟩) 0 0) 0 []):=⟨rfl,.inr ⟨w.heap.size,0,#[],rfl,Nat.le_refl _,World.alloc_heap_new w _,Nat.le_refl _,by unfold maxLen;omega,rfl,rfl⟩⟩
  obtain ⟨i0,hi,hz0,hz1,hz2⟩:=info_parts cinfo_Rt;have l0:(0:Int)≤n:=by omega
  have Hlen:Hid (row.length=n*5):=hlen;have Hone:Hid (∀ u∈row,u.oneCell'=true):=hone;clear hsrc hlen hone;go_enter func48,ntmps48
  go_wp2_with (at_builtin;refine wpList_append_own _ rfl _ _ 104 rfl w.heap.size 116 i0 (.agg #[.string ByteArray.empty,.string ByteArray.empty,.int .i64 0,.int .i64 0,.int .i64 0]) 5 56 underlying104 hi hz0 hz1 hz2 rfl (by decide) _ _ _ rfl HRw.out x n cap row rfl Hlen.out HS.out Hone.out Hm1.out Hm2.out Hm3.out ?_)
  intro v w1 hown hgrow _;have hb:Below w.heap.size w w1:=B1.grown hgrow B1.size (fun j e=>by simp [Value.ownBlock] at e;omega)
  have hown2:World.ownsRow w1 w.heap.size 116 5 v n row:=by simpa using hown
  obtain ⟨a1,k1,rfl⟩:∃ a1 k1,v=.slice a1 n k1:=by
   rcases hown2.2 with ⟨rfl,h0⟩ | ⟨g1,c1,cur,rfl,_⟩
   ·subst h0;exact ⟨_,_,rfl⟩
   ·exact ⟨_,_,rfl⟩
  have HE:Hid (World.ownsRow w1 w.heap.size 116 5 (.slice a1 n k1) n row∧Below w.heap.size w w1):=⟨hown2,hb⟩;clear hown hown2 hgrow hb B1 HS HRw;go_wp2;go_ret;exact ⟨_,_,rfl,HE.out.1,HE.out.2⟩
theorem cinfo_Li:(prog.info? 56).map (fun i=>(i.zero,i.size,i.bytes))=some (some (.agg #[.string ByteArray.empty,.string ByteArray.empty,.int .i64 0]),3,40):=by kernel_rfl
theorem clone_Li (a:Option Addr) (n cap:Nat) (row:List Value) (w:World) (hlen:row.length=n*3) (hone:∀ u∈row,u.oneCell'=true) (hsrc:n≠0→∃ x:Addr,a=some x∧x.block<w.heap.size∧∀ j u,row[j]? = some u→w.cell? (x.add j)=some u) (hn:n≤1000) :
  Calls prog 125 #[.slice a n cap] w fun e w'=>∃ a' c',e=.returned (.slice a' n c')∧w'.ownsRow w.heap.size 56 3 (.slice a' n c') n row∧Below w.heap.size w w':=by
 have q35:∀ (w:World) (a:Option Addr) (n c n' c':Nat),(binOp .eql 57 (.slice a n c) (.slice none n' c')).run prog w=.ok (.bool a.isNone) w:=fun w a n c n' c'=>Lib.run_eql_slice_nil w _ _ a n c n' c' underlying57
 cases a with
 | none=>
  have h0:n=0:=by
   by_cases h:n=0
   ·exact h
   ·obtain ⟨x,hx,_⟩:=hsrc h;cases hx
  subst h0;have hr:row=[]:=List.eq_nil_of_length_eq_zero (by rw [hlen])
  subst hr;clear hsrc hlen hone;go_enter func125,ntmps125
  go_wp2;go_ret;exact ⟨_,_,rfl,World.ownsRow_nil _ _ _ _,Below.refl _ _⟩
 | some x=>
  have B1:Below w.heap.size w (w.alloc (.cells #[] 56)):=(Below.refl _ w).alloc (Nat.le_refl _) _;have HS:Hid (∀ j u,row[j]? = some u→(w.alloc (.cells #[] 56)).cell? (x.add j)=some u):=fun j u h=>by
   have hne:n≠0:=fun e=>by
    subst e
    have:row=[]:=List.eq_nil_of_length_eq_zero (by rw [hlen])
    rw [this] at h;simp at h
   obtain ⟨x',hx',hlt,hc⟩:=hsrc hne;cases hx';rw [B1.cell (p:=x.add j) (by unfold Addr.add;split <;> exact hlt)]
   exact hc j u h
  have Hm1:Hid (0+n≤maxLen):=by unfold Hid maxLen;omega
  have Hm2:Hid ((0+n)*40≤140737488355328):=by unfold Hid;omega
  have Hm3:Hid (w.heap.size≤(w.alloc (.cells #[] 56)).heap.size):=by unfold Hid;simp
  have HRw:Hid (World.ownsRow (w.alloc (.cells #[] 56)) w.heap.size 56 3 (.slice (some ⟨w.heap.size,0,none⟩) 0 0) 0 []):=⟨rfl,.inr ⟨w.heap.size,0,#[],rfl,Nat.le_refl _,World.alloc_heap_new w _,Nat.le_refl _,by unfold maxLen;omega,rfl,rfl⟩⟩
  obtain ⟨i0,hi,hz0,hz1,hz2⟩:=info_parts cinfo_Li;have l0:(0:Int)≤n:=by omega
  have Hlen:Hid (row.length=n*3):=hlen;have Hone:Hid (∀ u∈row,u.oneCell'=true):=hone;clear hsrc hlen hone;go_enter func125,ntmps125
  go_wp2_with (at_builtin;refine wpList_append_own _ rfl _ _ 57 rfl w.heap.size 56 i0 (.agg #[.string ByteArray.empty,.string ByteArray.empty,.int .i64 0]) 3 40 underlying57 hi hz0 hz1 hz2 rfl (by decide) _ _ _ rfl HRw.out x n cap row rfl Hlen.out HS.out Hone.out Hm1.out Hm2.out Hm3.out ?_)
  intro v w1 hown hgrow _;have hb:Below w.heap.size w w1:=B1.grown hgrow B1.size (fun j e=>by simp [Value.ownBlock] at e;omega)
  have hown2:World.ownsRow w1 w.heap.size 56 3 v n row:=by simpa using hown
  obtain ⟨a1,k1,rfl⟩:∃ a1 k1,v=.slice a1 n k1:=by
   rcases hown2.2 with ⟨rfl,h0⟩ | ⟨g1,c1,cur,rfl,_⟩
   ·subst h0;exact ⟨_,_,rfl⟩
   ·exact ⟨_,_,rfl⟩
  have HE:Hid (World.ownsRow w1 w.heap.size 56 3 (.slice a1 n k1) n row∧Below w.heap.size w w1):=⟨hown2,hb⟩;clear hown hown2 hgrow hb B1 HS HRw;go_wp2;go_ret;exact ⟨_,_,rfl,HE.out.1,HE.out.2⟩
end
section
open Go.RowKit Go.Lib Go.Proofs.Tryz
section
variable {P:Program} {o:Oper} {a:Act} {w w':World} {K:Act→World→Prop} {Q:Exit→Act→World→Prop}
theorem wp_sput_run (t:TypeId) (m k x:Operand) (ho:o.op=.mapUpdate t m k x) (u1 u2 u3:Value) (h1:a.eval m=u1) (h2:a.eval k=u2) (h3:a.eval x=u3) (hr:(Instr.mapUpdate t u1 u2 u3).run P w=.ok () w') (h:K (a.put o.dst undef) w'):o.wp P a w K Q:=by
 unfold Oper.wp execOp;simp only [ho,Sem.run_bind,Sem.run_pure,Result.andThen_ok,h1,h2,h3,hr];exact h
end
section
variable {P:Program} {ops:Array Oper} {Q:Exit→Act→World→Prop} {md:Region.Mode} {T:World→Prop} {g:Nat}
theorem L_oneJ {i fuel:Nat} {listed:Array Bool} {a:Act} {w:World} (hr:Region.ready md ops listed=[i])
  (h:wpOp P ops Q i (fun a' w'=>T w'∧Qa1 P md ops Q g T fuel (listed.setIfInBounds i true) a' w') a w):Qa1 P md ops Q g T (fuel+1) listed a w:=by
 refine ⟨(fun h0=>by rw [hr] at h0;simp at h0),fun j hj=>?_⟩
 rw [hr] at hj;obtain rfl:=List.mem_singleton.1 hj;exact wpOp_mono (fun a' w' h'=>⟨fun _=>h'.1,h'.2⟩) h
end
section
variable {W:World} {n0 bj bm:Nat} {v:Value} {es:List Je}
end
end
section
open Go.RowKit Go.Lib Go.Proofs.Tryz
theorem ln_keep {W W':World} {n:Nat} {v:Value} {l:List Ln} (h:Qag W n v l) (hb:∀ (j:Nat) (cs:Array Value) (fr:Nat×Nat),W.heap[j]? = some (.cells cs 56 fr)→W'.heap[j]? = W.heap[j]?):Qag W' n v l:=by
 rcases h.2 with ⟨hv,hn⟩ | ⟨g1,c1,cur,hv,hb1,hh,r⟩
 ·exact ⟨h.1,.inl ⟨hv,hn⟩⟩
 ·exact ⟨h.1,.inr ⟨g1,c1,cur,hv,hb1,(hb g1 _ _ hh).trans hh,r⟩⟩
theorem QbG.typ {w:World} {n:Nat} {v:Value} {xs:List Je} (h:QbG w n v xs):∀ j,v.ownBlock=some j→∃ cs,w.heap[j]? = some (.cells cs 59 (0,0)):=fun j ej=>by
 rcases h.2 with ⟨rfl,_⟩ | ⟨g,cp,cur,rfl,hg,hh,_⟩
 ·cases ej
 ·cases ej;exact ⟨cur,hh⟩
section
variable {W:World} {n0 bj bm:Nat} {v:Value} {es:List Je}
end
end
end Go.Proofs.YtjifbbdkpanagaaGreatDoor
