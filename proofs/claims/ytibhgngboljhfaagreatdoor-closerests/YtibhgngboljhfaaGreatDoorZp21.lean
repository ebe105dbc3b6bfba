/-
  Part of a proof (see the last text).
-/
import Derived.Test.YtibhgngboljhfaaGreatDoorZp7
set_option linter.unusedVariables false
set_option linter.unusedSimpArgs false
set_option maxRecDepth 100000
namespace Go.Proofs.YtibhgngboljhfaaGreatDoor
section
open Go.RowKit Go.Lib Go.Proofs.Tryz
theorem cinfo_Rt:(prog.info? 75).map (fun i=>(i.zero,i.size,i.bytes))=some (some (.agg #[.string ByteArray.empty,.string ByteArray.empty,.int .i64 0,.int .i64 0,.int .i64 0]),5,56):=by kernel_rfl
theorem clone_Rt (a:Option Addr) (n cap:Nat) (row:List Value) (w:World) (hlen:row.length=n*5) (hone:∀ u∈row,u.oneCell'=true) (hsrc:n≠0→∃ x:Addr,a=some x∧x.block<w.heap.size∧∀ j u,row[j]? = some u→w.cell? (x.add j)=some u) (hn:n≤1000) :
  Calls prog 27 #[.slice a n cap] w fun e w'=>∃ a' c',e=.returned (.slice a' n c')∧w'.ownsRow w.heap.size 75 5 (.slice a' n c') n row∧Below w.heap.size w w':=by
 have q35:∀ (w:World) (a:Option Addr) (n c n' c':Nat),(binOp .eql 23 (.slice a n c) (.slice none n' c')).run prog w=.ok (.bool a.isNone) w:=fun w a n c n' c'=>Lib.run_eql_slice_nil w _ _ a n c n' c' underlying23
 cases a with
 | none=>
  have h0:n=0:=by
   by_cases h:n=0
   ·exact h
   ·obtain ⟨x,hx,_⟩:=hsrc h;cases hx
  subst h0;have hr:row=[]:=List.eq_nil_of_length_eq_zero (by rw [hlen])
  subst hr;clear hsrc hlen hone;go_enter func27,ntmps27
  go_wp2;go_ret;exact ⟨_,_,rfl,World.ownsRow_nil _ _ _ _,Below.refl _ _⟩
 | some x=>
  have B1:Below w.heap.size w (w.alloc (.cells #[] 75)):=(Below.refl _ w).alloc (Nat.le_refl _) _;have HS:Hid (∀ j u,row[j]? = some u→(w.alloc (.cells #[] 75)).cell? (x.add j)=some u):=fun j u h=>by
   have hne:n≠0:=fun e=>by
    subst e
    have:row=[]:=List.eq_nil_of_length_eq_zero (by rw [hlen])
    rw [this] at h;simp at h
   obtain ⟨x',hx',hlt,hc⟩:=hsrc hne;cases hx';rw [B1.cell (p:=x.add j) (by unfold Addr.add;split <;> exact hlt)]
   exact hc j u h
  have Hm1:Hid (0+n≤maxLen):=by unfold Hid maxLen;omega
  have Hm2:Hid ((0+n)*56≤140737488355328):=by unfold Hid;omega
  have Hm3:Hid (w.heap.size≤(w.alloc (.cells #[] 75)).heap.size):=by unfold Hid;simp
  have HRw:Hid (World.ownsRow (w.alloc (.cells #[] 75)) w.heap.size 75 5 (.slice (some ⟨w.heap.size,0,none⟩) 0 0) 0 []):=⟨rfl,.inr ⟨w.heap.size,0,#[],rfl,Nat.le_refl _,World.alloc_heap_new w _,Nat.le_refl _,by unfold maxLen;omega,rfl,rfl⟩⟩
  obtain ⟨i0,hi,hz0,hz1,hz2⟩:=info_parts cinfo_Rt;have l0:(0:Int)≤n:=by omega
  have Hlen:Hid (row.length=n*5):=hlen;have Hone:Hid (∀ u∈row,u.oneCell'=true):=hone;clear hsrc hlen hone;go_enter func27,ntmps27
  go_wp2_with (at_builtin;refine wpList_append_own _ rfl _ _ 23 rfl w.heap.size 75 i0 (.agg #[.string ByteArray.empty,.string ByteArray.empty,.int .i64 0,.int .i64 0,.int .i64 0]) 5 56 underlying23 hi hz0 hz1 hz2 rfl (by decide) _ _ _ rfl HRw.out x n cap row rfl Hlen.out HS.out Hone.out Hm1.out Hm2.out Hm3.out ?_)
  intro v w1 hown hgrow _;have hb:Below w.heap.size w w1:=B1.grown hgrow B1.size (fun j e=>by simp [Value.ownBlock] at e;omega)
  have hown2:World.ownsRow w1 w.heap.size 75 5 v n row:=by simpa using hown
  obtain ⟨a1,k1,rfl⟩:∃ a1 k1,v=.slice a1 n k1:=by
   rcases hown2.2 with ⟨rfl,h0⟩ | ⟨g1,c1,cur,rfl,_⟩
   ·subst h0;exact ⟨_,_,rfl⟩
   ·exact ⟨_,_,rfl⟩
  have HE:Hid (World.ownsRow w1 w.heap.size 75 5 (.slice a1 n k1) n row∧Below w.heap.size w w1):=⟨hown2,hb⟩;clear hown hown2 hgrow hb B1 HS HRw;go_wp2;go_ret;exact ⟨_,_,rfl,HE.out.1,HE.out.2⟩
theorem cinfo_Je:(prog.info? 38).map (fun i=>(i.zero,i.size,i.bytes))=some (some (.agg #[.string ByteArray.empty,.int .i64 0,.int .i64 0,.slice none 0 0]),4,56):=by kernel_rfl
theorem clone_Je (a:Option Addr) (n cap:Nat) (row:List Value) (w:World) (hlen:row.length=n*4) (hone:∀ u∈row,u.oneCell'=true) (hsrc:n≠0→∃ x:Addr,a=some x∧x.block<w.heap.size∧∀ j u,row[j]? = some u→w.cell? (x.add j)=some u) (hn:n≤1000) :
  Calls prog 35 #[.slice a n cap] w fun e w'=>∃ a' c',e=.returned (.slice a' n c')∧w'.ownsRow w.heap.size 38 4 (.slice a' n c') n row∧Below w.heap.size w w':=by
 have q35:∀ (w:World) (a:Option Addr) (n c n' c':Nat),(binOp .eql 27 (.slice a n c) (.slice none n' c')).run prog w=.ok (.bool a.isNone) w:=fun w a n c n' c'=>Lib.run_eql_slice_nil w _ _ a n c n' c' underlying27
 cases a with
 | none=>
  have h0:n=0:=by
   by_cases h:n=0
   ·exact h
   ·obtain ⟨x,hx,_⟩:=hsrc h;cases hx
  subst h0;have hr:row=[]:=List.eq_nil_of_length_eq_zero (by rw [hlen])
  subst hr;clear hsrc hlen hone;go_enter func35,ntmps35
  go_wp2;go_ret;exact ⟨_,_,rfl,World.ownsRow_nil _ _ _ _,Below.refl _ _⟩
 | some x=>
  have B1:Below w.heap.size w (w.alloc (.cells #[] 38)):=(Below.refl _ w).alloc (Nat.le_refl _) _;have HS:Hid (∀ j u,row[j]? = some u→(w.alloc (.cells #[] 38)).cell? (x.add j)=some u):=fun j u h=>by
   have hne:n≠0:=fun e=>by
    subst e
    have:row=[]:=List.eq_nil_of_length_eq_zero (by rw [hlen])
    rw [this] at h;simp at h
   obtain ⟨x',hx',hlt,hc⟩:=hsrc hne;cases hx';rw [B1.cell (p:=x.add j) (by unfold Addr.add;split <;> exact hlt)]
   exact hc j u h
  have Hm1:Hid (0+n≤maxLen):=by unfold Hid maxLen;omega
  have Hm2:Hid ((0+n)*56≤140737488355328):=by unfold Hid;omega
  have Hm3:Hid (w.heap.size≤(w.alloc (.cells #[] 38)).heap.size):=by unfold Hid;simp
  have HRw:Hid (World.ownsRow (w.alloc (.cells #[] 38)) w.heap.size 38 4 (.slice (some ⟨w.heap.size,0,none⟩) 0 0) 0 []):=⟨rfl,.inr ⟨w.heap.size,0,#[],rfl,Nat.le_refl _,World.alloc_heap_new w _,Nat.le_refl _,by unfold maxLen;omega,rfl,rfl⟩⟩
  obtain ⟨i0,hi,hz0,hz1,hz2⟩:=info_parts cinfo_Je;have l0:(0:Int)≤n:=by omega
  have Hlen:Hid (row.length=n*4):=hlen;have Hone:Hid (∀ u∈row,u.oneCell'=true):=hone;clear hsrc hlen hone;go_enter func35,ntmps35
  go_wp2_with (at_builtin;refine wpList_append_own _ rfl _ _ 27 rfl w.heap.size 38 i0 (.agg #[.string ByteArray.empty,.int .i64 0,.int .i64 0,.slice none 0 0]) 4 56 underlying27 hi hz0 hz1 hz2 rfl (by decide) _ _ _ rfl HRw.out x n cap row rfl Hlen.out HS.out Hone.out Hm1.out Hm2.out Hm3.out ?_)
  intro v w1 hown hgrow _;have hb:Below w.heap.size w w1:=B1.grown hgrow B1.size (fun j e=>by simp [Value.ownBlock] at e;omega)
  have hown2:World.ownsRow w1 w.heap.size 38 4 v n row:=by simpa using hown
  obtain ⟨a1,k1,rfl⟩:∃ a1 k1,v=.slice a1 n k1:=by
   rcases hown2.2 with ⟨rfl,h0⟩ | ⟨g1,c1,cur,rfl,_⟩
   ·subst h0;exact ⟨_,_,rfl⟩
   ·exact ⟨_,_,rfl⟩
  have HE:Hid (World.ownsRow w1 w.heap.size 38 4 (.slice a1 n k1) n row∧Below w.heap.size w w1):=⟨hown2,hb⟩;clear hown hown2 hgrow hb B1 HS HRw;go_wp2;go_ret;exact ⟨_,_,rfl,HE.out.1,HE.out.2⟩
theorem cinfo_Pn:(prog.info? 93).map (fun i=>(i.zero,i.size,i.bytes))=some (some (.agg #[.string ByteArray.empty,.int .i64 0,.string ByteArray.empty,.string ByteArray.empty,.string ByteArray.empty,.int .i64 0,.int .i64 0,.int .i64 0]),8,96):=by kernel_rfl
theorem clone_Pn (a:Option Addr) (n cap:Nat) (row:List Value) (w:World) (hlen:row.length=n*8) (hone:∀ u∈row,u.oneCell'=true) (hsrc:n≠0→∃ x:Addr,a=some x∧x.block<w.heap.size∧∀ j u,row[j]? = some u→w.cell? (x.add j)=some u) (hn:n≤1000) :
  Calls prog 38 #[.slice a n cap] w fun e w'=>∃ a' c',e=.returned (.slice a' n c')∧w'.ownsRow w.heap.size 93 8 (.slice a' n c') n row∧Below w.heap.size w w':=by
 have q35:∀ (w:World) (a:Option Addr) (n c n' c':Nat),(binOp .eql 24 (.slice a n c) (.slice none n' c')).run prog w=.ok (.bool a.isNone) w:=fun w a n c n' c'=>Lib.run_eql_slice_nil w _ _ a n c n' c' underlying24
 cases a with
 | none=>
  have h0:n=0:=by
   by_cases h:n=0
   ·exact h
   ·obtain ⟨x,hx,_⟩:=hsrc h;cases hx
  subst h0;have hr:row=[]:=List.eq_nil_of_length_eq_zero (by rw [hlen])
  subst hr;clear hsrc hlen hone;go_enter func38,ntmps38
  go_wp2;go_ret;exact ⟨_,_,rfl,World.ownsRow_nil _ _ _ _,Below.refl _ _⟩
 | some x=>
  have B1:Below w.heap.size w (w.alloc (.cells #[] 93)):=(Below.refl _ w).alloc (Nat.le_refl _) _;have HS:Hid (∀ j u,row[j]? = some u→(w.alloc (.cells #[] 93)).cell? (x.add j)=some u):=fun j u h=>by
   have hne:n≠0:=fun e=>by
    subst e
    have:row=[]:=List.eq_nil_of_length_eq_zero (by rw [hlen])
    rw [this] at h;simp at h
   obtain ⟨x',hx',hlt,hc⟩:=hsrc hne;cases hx';rw [B1.cell (p:=x.add j) (by unfold Addr.add;split <;> exact hlt)]
   exact hc j u h
  have Hm1:Hid (0+n≤maxLen):=by unfold Hid maxLen;omega
  have Hm2:Hid ((0+n)*96≤140737488355328):=by unfold Hid;omega
  have Hm3:Hid (w.heap.size≤(w.alloc (.cells #[] 93)).heap.size):=by unfold Hid;simp
  have HRw:Hid (World.ownsRow (w.alloc (.cells #[] 93)) w.heap.size 93 8 (.slice (some ⟨w.heap.size,0,none⟩) 0 0) 0 []):=⟨rfl,.inr ⟨w.heap.size,0,#[],rfl,Nat.le_refl _,World.alloc_heap_new w _,Nat.le_refl _,by unfold maxLen;omega,rfl,rfl⟩⟩
  obtain ⟨i0,hi,hz0,hz1,hz2⟩:=info_parts cinfo_Pn;have l0:(0:Int)≤n:=by omega
  have Hlen:Hid (row.length=n*8):=hlen;have Hone:Hid (∀ u∈row,u.oneCell'=true):=hone;clear hsrc hlen hone;go_enter func38,ntmps38
  go_wp2_with (at_builtin;refine wpList_append_own _ rfl _ _ 24 rfl w.heap.size 93 i0 (.agg #[.string ByteArray.empty,.int .i64 0,.string ByteArray.empty,.string ByteArray.empty,.string ByteArray.empty,.int .i64 0,.int .i64 0,.int .i64 0]) 8 96 underlying24 hi hz0 hz1 hz2 rfl (by decide) _ _ _ rfl HRw.out x n cap row rfl Hlen.out HS.out Hone.out Hm1.out Hm2.out Hm3.out ?_)
  intro v w1 hown hgrow _;have hb:Below w.heap.size w w1:=B1.grown hgrow B1.size (fun j e=>by simp [Value.ownBlock] at e;omega)
  have hown2:World.ownsRow w1 w.heap.size 93 8 v n row:=by simpa using hown
  obtain ⟨a1,k1,rfl⟩:∃ a1 k1,v=.slice a1 n k1:=by
   rcases hown2.2 with ⟨rfl,h0⟩ | ⟨g1,c1,cur,rfl,_⟩
   ·subst h0;exact ⟨_,_,rfl⟩
   ·exact ⟨_,_,rfl⟩
  have HE:Hid (World.ownsRow w1 w.heap.size 93 8 (.slice a1 n k1) n row∧Below w.heap.size w w1):=⟨hown2,hb⟩;clear hown hown2 hgrow hb B1 HS HRw;go_wp2;go_ret;exact ⟨_,_,rfl,HE.out.1,HE.out.2⟩
theorem cinfo_Po:(prog.info? 99).map (fun i=>(i.zero,i.size,i.bytes))=some (some (.agg #[.string ByteArray.empty,.string ByteArray.empty,.slice none 0 0,.slice none 0 0]),4,80):=by kernel_rfl
theorem clone_Po (a:Option Addr) (n cap:Nat) (row:List Value) (w:World) (hlen:row.length=n*4) (hone:∀ u∈row,u.oneCell'=true) (hsrc:n≠0→∃ x:Addr,a=some x∧x.block<w.heap.size∧∀ j u,row[j]? = some u→w.cell? (x.add j)=some u) (hn:n≤1000) :
  Calls prog 40 #[.slice a n cap] w fun e w'=>∃ a' c',e=.returned (.slice a' n c')∧w'.ownsRow w.heap.size 99 4 (.slice a' n c') n row∧Below w.heap.size w w':=by
 have q35:∀ (w:World) (a:Option Addr) (n c n' c':Nat),(binOp .eql 25 (.slice a n c) (.slice none n' c')).run prog w=.ok (.bool a.isNone) w:=fun w a n c n' c'=>Lib.run_eql_slice_nil w _ _ a n c n' c' underlying25
 cases a with
 | none=>
  have h0:n=0:=by
   by_cases h:n=0
   ·exact h
   ·obtain ⟨x,hx,_⟩:=hsrc h;cases hx
  subst h0;have hr:row=[]:=List.eq_nil_of_length_eq_zero (by rw [hlen])
  subst hr;clear hsrc hlen hone;go_enter func40,ntmps40
  go_wp2;go_ret;exact ⟨_,_,rfl,World.ownsRow_nil _ _ _ _,Below.refl _ _⟩
 | some x=>
  have B1:Below w.heap.size w (w.alloc (.cells #[] 99)):=(Below.refl _ w).alloc (Nat.le_refl _) _;have HS:Hid (∀ j u,row[j]? = some u→(w.alloc (.cells #[] 99)).cell? (x.add j)=some u):=fun j u h=>by
   have hne:n≠0:=fun e=>by
    subst e
    have:row=[]:=List.eq_nil_of_length_eq_zero (by rw [hlen])
    rw [this] at h;simp at h
   obtain ⟨x',hx',hlt,hc⟩:=hsrc hne;cases hx';rw [B1.cell (p:=x.add j) (by unfold Addr.add;split <;> exact hlt)]
   exact hc j u h
  have Hm1:Hid (0+n≤maxLen):=by unfold Hid maxLen;omega
  have Hm2:Hid ((0+n)*80≤140737488355328):=by unfold Hid;omega
  have Hm3:Hid (w.heap.size≤(w.alloc (.cells #[] 99)).heap.size):=by unfold Hid;simp
  have HRw:Hid (World.ownsRow (w.alloc (.cells #[] 99)) w.heap.size 99 4 (.slice (some ⟨w.heap.size,0,none⟩) 0 0) 0 []):=⟨rfl,.inr ⟨w.heap.size,0,#[],rfl,Nat.le_refl _,World.alloc_heap_new w _,Nat.le_refl _,by unfold maxLen;omega,rfl,rfl⟩⟩
  obtain ⟨i0,hi,hz0,hz1,hz2⟩:=info_parts cinfo_Po;have l0:(0:Int)≤n:=by omega
  have Hlen:Hid (row.length=n*4):=hlen;have Hone:Hid (∀ u∈row,u.oneCell'=true):=hone;clear hsrc hlen hone;go_enter func40,ntmps40
  go_wp2_with (at_builtin;refine wpList_append_own _ rfl _ _ 25 rfl w.heap.size 99 i0 (.agg #[.string ByteArray.empty,.string ByteArray.empty,.slice none 0 0,.slice none 0 0]) 4 80 underlying25 hi hz0 hz1 hz2 rfl (by decide) _ _ _ rfl HRw.out x n cap row rfl Hlen.out HS.out Hone.out Hm1.out Hm2.out Hm3.out ?_)
  intro v w1 hown hgrow _;have hb:Below w.heap.size w w1:=B1.grown hgrow B1.size (fun j e=>by simp [Value.ownBlock] at e;omega)
  have hown2:World.ownsRow w1 w.heap.size 99 4 v n row:=by simpa using hown
  obtain ⟨a1,k1,rfl⟩:∃ a1 k1,v=.slice a1 n k1:=by
   rcases hown2.2 with ⟨rfl,h0⟩ | ⟨g1,c1,cur,rfl,_⟩
   ·subst h0;exact ⟨_,_,rfl⟩
   ·exact ⟨_,_,rfl⟩
  have HE:Hid (World.ownsRow w1 w.heap.size 99 4 (.slice a1 n k1) n row∧Below w.heap.size w w1):=⟨hown2,hb⟩;clear hown hown2 hgrow hb B1 HS HRw;go_wp2;go_ret;exact ⟨_,_,rfl,HE.out.1,HE.out.2⟩
theorem cinfo_Pr:(prog.info? 105).map (fun i=>(i.zero,i.size,i.bytes))=some (some (.agg #[.int .i64 0,.int .i64 0,.string ByteArray.empty,.string ByteArray.empty,.string ByteArray.empty]),5,64):=by kernel_rfl
theorem clone_Pr (a:Option Addr) (n cap:Nat) (row:List Value) (w:World) (hlen:row.length=n*5) (hone:∀ u∈row,u.oneCell'=true) (hsrc:n≠0→∃ x:Addr,a=some x∧x.block<w.heap.size∧∀ j u,row[j]? = some u→w.cell? (x.add j)=some u) (hn:n≤1000) :
  Calls prog 44 #[.slice a n cap] w fun e w'=>∃ a' c',e=.returned (.slice a' n c')∧w'.ownsRow w.heap.size 105 5 (.slice a' n c') n row∧Below w.heap.size w w':=by
 have q35:∀ (w:World) (a:Option Addr) (n c n' c':Nat),(binOp .eql 26 (.slice a n c) (.slice none n' c')).run prog w=.ok (.bool a.isNone) w:=fun w a n c n' c'=>Lib.run_eql_slice_nil w _ _ a n c n' c' underlying26
 cases a with
 | none=>
  have h0:n=0:=by
   by_cases h:n=0
   ·exact h
   ·obtain ⟨x,hx,_⟩:=hsrc h;cases hx
  subst h0;have hr:row=[]:=List.eq_nil_of_length_eq_zero (by rw [hlen])
  subst hr;clear hsrc hlen hone;go_enter func44,ntmps44
  go_wp2;go_ret;exact ⟨_,_,rfl,World.ownsRow_nil _ _ _ _,Below.refl _ _⟩
 | some x=>
  have B1:Below w.heap.size w (w.alloc (.cells #[] 105)):=(Below.refl _ w).alloc (Nat.le_refl _) _;have HS:Hid (∀ j u,row[j]? = some u→(w.alloc (.cells #[] 105)).cell? (x.add j)=some u):=fun j u h=>by
   have hne:n≠0:=fun e=>by
    subst e
    have:row=[]:=List.eq_nil_of_length_eq_zero (by rw [hlen])
    rw [this] at h;simp at h
   obtain ⟨x',hx',hlt,hc⟩:=hsrc hne;cases hx';rw [B1.cell (p:=x.add j) (by unfold Addr.add;split <;> exact hlt)]
   exact hc j u h
  have Hm1:Hid (0+n≤maxLen):=by unfold Hid maxLen;omega
  have Hm2:Hid ((0+n)*64≤140737488355328):=by unfold Hid;omega
  have Hm3:Hid (w.heap.size≤(w.alloc (.cells #[] 105)).heap.size):=by unfold Hid;simp
  have HRw:Hid (World.ownsRow (w.alloc (.cells #[] 105)) w.heap.size 105 5 (.slice (some ⟨w.heap.size,0,none⟩) 0 0) 0 []):=⟨rfl,.inr ⟨w.heap.size,0,#[],rfl,Nat.le_refl _,World.alloc_heap_new w _,Nat.le_refl _,by unfold maxLen;omega,rfl,rfl⟩⟩
  obtain ⟨i0,hi,hz0,hz1,hz2⟩:=info_parts cinfo_Pr;have l0:(0:Int)≤n:=by omega
  have Hlen:Hid (row.length=n*5):=hlen;have Hone:Hid (∀ u∈row,u.oneCell'=true):=hone;clear hsrc hlen hone;go_enter func44,ntmps44
  go_wp2_with (at_builtin;refine wpList_append_own _ rfl _ _ 26 rfl w.heap.size 105 i0 (.agg #[.int .i64 0,.int .i64 0,.string ByteArray.empty,.string ByteArray.empty,.string ByteArray.empty]) 5 64 underlying26 hi hz0 hz1 hz2 rfl (by decide) _ _ _ rfl HRw.out x n cap row rfl Hlen.out HS.out Hone.out Hm1.out Hm2.out Hm3.out ?_)
  intro v w1 hown hgrow _;have hb:Below w.heap.size w w1:=B1.grown hgrow B1.size (fun j e=>by simp [Value.ownBlock] at e;omega)
  have hown2:World.ownsRow w1 w.heap.size 105 5 v n row:=by simpa using hown
  obtain ⟨a1,k1,rfl⟩:∃ a1 k1,v=.slice a1 n k1:=by
   rcases hown2.2 with ⟨rfl,h0⟩ | ⟨g1,c1,cur,rfl,_⟩
   ·subst h0;exact ⟨_,_,rfl⟩
   ·exact ⟨_,_,rfl⟩
  have HE:Hid (World.ownsRow w1 w.heap.size 105 5 (.slice a1 n k1) n row∧Below w.heap.size w w1):=⟨hown2,hb⟩;clear hown hown2 hgrow hb B1 HS HRw;go_wp2;go_ret;exact ⟨_,_,rfl,HE.out.1,HE.out.2⟩
theorem cinfo_Tx:(prog.info? 9).map (fun i=>(i.zero,i.size,i.bytes))=some (some (.string ByteArray.empty),1,16):=by kernel_rfl
theorem clone_Tx (a:Option Addr) (n cap:Nat) (row:List Value) (w:World) (hlen:row.length=n*1) (hone:∀ u∈row,u.oneCell'=true) (hsrc:n≠0→∃ x:Addr,a=some x∧x.block<w.heap.size∧∀ j u,row[j]? = some u→w.cell? (x.add j)=some u) (hn:n≤1000) :
  Calls prog 41 #[.slice a n cap] w fun e w'=>∃ a' c',e=.returned (.slice a' n c')∧w'.ownsRow w.heap.size 9 1 (.slice a' n c') n row∧Below w.heap.size w w':=by
 have q35:∀ (w:World) (a:Option Addr) (n c n' c':Nat),(binOp .eql 96 (.slice a n c) (.slice none n' c')).run prog w=.ok (.bool a.isNone) w:=fun w a n c n' c'=>Lib.run_eql_slice_nil w _ _ a n c n' c' underlying96
 cases a with
 | none=>
  have h0:n=0:=by
   by_cases h:n=0
   ·exact h
   ·obtain ⟨x,hx,_⟩:=hsrc h;cases hx
  subst h0;have hr:row=[]:=List.eq_nil_of_length_eq_zero (by rw [hlen])
  subst hr;clear hsrc hlen hone;go_enter func41,ntmps41
  go_wp2;go_ret;exact ⟨_,_,rfl,World.ownsRow_nil _ _ _ _,Below.refl _ _⟩
 | some x=>
  have B1:Below w.heap.size w (w.alloc (.cells #[] 9)):=(Below.refl _ w).alloc (Nat.le_refl _) _;have HS:Hid (∀ j u,row[j]? = some u→(w.alloc (.cells #[] 9)).cell? (x.add j)=some u):=fun j u h=>by
   have hne:n≠0:=fun e=>by
    subst e
    have:row=[]:=List.eq_nil_of_length_eq_zero (by rw [hlen])
    rw [this] at h;simp at h
   obtain ⟨x',hx',hlt,hc⟩:=hsrc hne;cases hx';rw [B1.cell (p:=x.add j) (by unfold Addr.add;split <;> exact hlt)]
   exact hc j u h
  have Hm1:Hid (0+n≤maxLen):=by unfold Hid maxLen;omega
  have Hm2:Hid ((0+n)*16≤140737488355328):=by unfold Hid;omega
  have Hm3:Hid (w.heap.size≤(w.alloc (.cells #[] 9)).heap.size):=by unfold Hid;simp
  have HRw:Hid (World.ownsRow (w.alloc (.cells #[] 9)) w.heap.size 9 1 (.slice (some ⟨w.heap.size,0,none⟩) 0 0) 0 []):=⟨rfl,.inr ⟨w.heap.size,0,#[],rfl,Nat.le_refl _,World.alloc_heap_new w _,Nat.le_refl _,by unfold maxLen;omega,rfl,rfl⟩⟩
  obtain ⟨i0,hi,hz0,hz1,hz2⟩:=info_parts cinfo_Tx;have l0:(0:Int)≤n:=by omega
  have Hlen:Hid (row.length=n*1):=hlen;have Hone:Hid (∀ u∈row,u.oneCell'=true):=hone;clear hsrc hlen hone;go_enter func41,ntmps41
  go_wp2_with (at_builtin;refine wpList_append_own _ rfl _ _ 96 rfl w.heap.size 9 i0 (.string ByteArray.empty) 1 16 underlying96 hi hz0 hz1 hz2 rfl (by decide) _ _ _ rfl HRw.out x n cap row rfl Hlen.out HS.out Hone.out Hm1.out Hm2.out Hm3.out ?_)
  intro v w1 hown hgrow _;have hb:Below w.heap.size w w1:=B1.grown hgrow B1.size (fun j e=>by simp [Value.ownBlock] at e;omega)
  have hown2:World.ownsRow w1 w.heap.size 9 1 v n row:=by simpa using hown
  obtain ⟨a1,k1,rfl⟩:∃ a1 k1,v=.slice a1 n k1:=by
   rcases hown2.2 with ⟨rfl,h0⟩ | ⟨g1,c1,cur,rfl,_⟩
   ·subst h0;exact ⟨_,_,rfl⟩
   ·exact ⟨_,_,rfl⟩
  have HE:Hid (World.ownsRow w1 w.heap.size 9 1 (.slice a1 n k1) n row∧Below w.heap.size w w1):=⟨hown2,hb⟩;clear hown hown2 hgrow hb B1 HS HRw;go_wp2;go_ret;exact ⟨_,_,rfl,HE.out.1,HE.out.2⟩
theorem cinfo_Nb:(prog.info? 3).map (fun i=>(i.zero,i.size,i.bytes))=some (some (.int .i64 0),1,8):=by kernel_rfl
theorem clone_Nb (a:Option Addr) (n cap:Nat) (row:List Value) (w:World) (hlen:row.length=n*1) (hone:∀ u∈row,u.oneCell'=true) (hsrc:n≠0→∃ x:Addr,a=some x∧x.block<w.heap.size∧∀ j u,row[j]? = some u→w.cell? (x.add j)=some u) (hn:n≤1000) :
  Calls prog 42 #[.slice a n cap] w fun e w'=>∃ a' c',e=.returned (.slice a' n c')∧w'.ownsRow w.heap.size 3 1 (.slice a' n c') n row∧Below w.heap.size w w':=by
 have q35:∀ (w:World) (a:Option Addr) (n c n' c':Nat),(binOp .eql 97 (.slice a n c) (.slice none n' c')).run prog w=.ok (.bool a.isNone) w:=fun w a n c n' c'=>Lib.run_eql_slice_nil w _ _ a n c n' c' underlying97
 cases a with
 | none=>
  have h0:n=0:=by
   by_cases h:n=0
   ·exact h
   ·obtain ⟨x,hx,_⟩:=hsrc h;cases hx
  subst h0;have hr:row=[]:=List.eq_nil_of_length_eq_zero (by rw [hlen])
  subst hr;clear hsrc hlen hone;go_enter func42,ntmps42
  go_wp2;go_ret;exact ⟨_,_,rfl,World.ownsRow_nil _ _ _ _,Below.refl _ _⟩
 | some x=>
  have B1:Below w.heap.size w (w.alloc (.cells #[] 3)):=(Below.refl _ w).alloc (Nat.le_refl _) _;have HS:Hid (∀ j u,row[j]? = some u→(w.alloc (.cells #[] 3)).cell? (x.add j)=some u):=fun j u h=>by
   have hne:n≠0:=fun e=>by
    subst e
    have:row=[]:=List.eq_nil_of_length_eq_zero (by rw [hlen])
    rw [this] at h;simp at h
   obtain ⟨x',hx',hlt,hc⟩:=hsrc hne;cases hx';rw [B1.cell (p:=x.add j) (by unfold Addr.add;split <;> exact hlt)]
   exact hc j u h
  have Hm1:Hid (0+n≤maxLen):=by unfold Hid maxLen;omega
  have Hm2:Hid ((0+n)*8≤140737488355328):=by unfold Hid;omega
  have Hm3:Hid (w.heap.size≤(w.alloc (.cells #[] 3)).heap.size):=by unfold Hid;simp
  have HRw:Hid (World.ownsRow (w.alloc (.cells #[] 3)) w.heap.size 3 1 (.slice (some ⟨w.heap.size,0,none⟩) 0 0) 0 []):=⟨rfl,.inr ⟨w.heap.size,0,#[],rfl,Nat.le_refl _,World.alloc_heap_new w _,Nat.le_refl _,by unfold maxLen;omega,rfl,rfl⟩⟩
  obtain ⟨i0,hi,hz0,hz1,hz2⟩:=info_parts cinfo_Nb;have l0:(0:Int)≤n:=by omega
  have Hlen:Hid (row.length=n*1):=hlen;have Hone:Hid (∀ u∈row,u.oneCell'=true):=hone;clear hsrc hlen hone;go_enter func42,ntmps42
  go_wp2_with (at_builtin;refine wpList_append_own _ rfl _ _ 97 rfl w.heap.size 3 i0 (.int .i64 0) 1 8 underlying97 hi hz0 hz1 hz2 rfl (by decide) _ _ _ rfl HRw.out x n cap row rfl Hlen.out HS.out Hone.out Hm1.out Hm2.out Hm3.out ?_)
  intro v w1 hown hgrow _;have hb:Below w.heap.size w w1:=B1.grown hgrow B1.size (fun j e=>by simp [Value.ownBlock] at e;omega)
  have hown2:World.ownsRow w1 w.heap.size 3 1 v n row:=by simpa using hown
  obtain ⟨a1,k1,rfl⟩:∃ a1 k1,v=.slice a1 n k1:=by
   rcases hown2.2 with ⟨rfl,h0⟩ | ⟨g1,c1,cur,rfl,_⟩
   ·subst h0;exact ⟨_,_,rfl⟩
   ·exact ⟨_,_,rfl⟩
  have HE:Hid (World.ownsRow w1 w.heap.size 3 1 (.slice a1 n k1) n row∧Below w.heap.size w w1):=⟨hown2,hb⟩;clear hown hown2 hgrow hb B1 HS HRw;go_wp2;go_ret;exact ⟨_,_,rfl,HE.out.1,HE.out.2⟩
theorem cinfo_Li:(prog.info? 44).map (fun i=>(i.zero,i.size,i.bytes))=some (some (.agg #[.string ByteArray.empty,.string ByteArray.empty,.int .i64 0]),3,40):=by kernel_rfl
theorem clone_Li (a:Option Addr) (n cap:Nat) (row:List Value) (w:World) (hlen:row.length=n*3) (hone:∀ u∈row,u.oneCell'=true) (hsrc:n≠0→∃ x:Addr,a=some x∧x.block<w.heap.size∧∀ j u,row[j]? = some u→w.cell? (x.add j)=some u) (hn:n≤1000) :
  Calls prog 82 #[.slice a n cap] w fun e w'=>∃ a' c',e=.returned (.slice a' n c')∧w'.ownsRow w.heap.size 44 3 (.slice a' n c') n row∧Below w.heap.size w w':=by
 have q35:∀ (w:World) (a:Option Addr) (n c n' c':Nat),(binOp .eql 36 (.slice a n c) (.slice none n' c')).run prog w=.ok (.bool a.isNone) w:=fun w a n c n' c'=>Lib.run_eql_slice_nil w _ _ a n c n' c' underlying36
 cases a with
 | none=>
  have h0:n=0:=by
   by_cases h:n=0
   ·exact h
   ·obtain ⟨x,hx,_⟩:=hsrc h;cases hx
  subst h0;have hr:row=[]:=List.eq_nil_of_length_eq_zero (by rw [hlen])
  subst hr;clear hsrc hlen hone;go_enter func82,ntmps82
  go_wp2;go_ret;exact ⟨_,_,rfl,World.ownsRow_nil _ _ _ _,Below.refl _ _⟩
 | some x=>
  have B1:Below w.heap.size w (w.alloc (.cells #[] 44)):=(Below.refl _ w).alloc (Nat.le_refl _) _;have HS:Hid (∀ j u,row[j]? = some u→(w.alloc (.cells #[] 44)).cell? (x.add j)=some u):=fun j u h=>by
   have hne:n≠0:=fun e=>by
    subst e
    have:row=[]:=List.eq_nil_of_length_eq_zero (by rw [hlen])
    rw [this] at h;simp at h
   obtain ⟨x',hx',hlt,hc⟩:=hsrc hne;cases hx';rw [B1.cell (p:=x.add j) (by unfold Addr.add;split <;> exact hlt)]
   exact hc j u h
  have Hm1:Hid (0+n≤maxLen):=by unfold Hid maxLen;omega
  have Hm2:Hid ((0+n)*40≤140737488355328):=by unfold Hid;omega
  have Hm3:Hid (w.heap.size≤(w.alloc (.cells #[] 44)).heap.size):=by unfold Hid;simp
  have HRw:Hid (World.ownsRow (w.alloc (.cells #[] 44)) w.heap.size 44 3 (.slice (some ⟨w.heap.size,0,none⟩) 0 0) 0 []):=⟨rfl,.inr ⟨w.heap.size,0,#[],rfl,Nat.le_refl _,World.alloc_heap_new w _,Nat.le_refl _,by unfold maxLen;omega,rfl,rfl⟩⟩
  obtain ⟨i0,hi,hz0,hz1,hz2⟩:=info_parts cinfo_Li;have l0:(0:Int)≤n:=by omega
  have Hlen:Hid (row.length=n*3):=hlen;have Hone:Hid (∀ u∈row,u.oneCell'=true):=hone;clear hsrc hlen hone;go_enter func82,ntmps82
  go_wp2_with (at_builtin;refine wpList_append_own _ rfl _ _ 36 rfl w.heap.size 44 i0 (.agg #[.string ByteArray.empty,.string ByteArray.empty,.int .i64 0]) 3 40 underlying36 hi hz0 hz1 hz2 rfl (by decide) _ _ _ rfl HRw.out x n cap row rfl Hlen.out HS.out Hone.out Hm1.out Hm2.out Hm3.out ?_)
  intro v w1 hown hgrow _;have hb:Below w.heap.size w w1:=B1.grown hgrow B1.size (fun j e=>by simp [Value.ownBlock] at e;omega)
  have hown2:World.ownsRow w1 w.heap.size 44 3 v n row:=by simpa using hown
  obtain ⟨a1,k1,rfl⟩:∃ a1 k1,v=.slice a1 n k1:=by
   rcases hown2.2 with ⟨rfl,h0⟩ | ⟨g1,c1,cur,rfl,_⟩
   ·subst h0;exact ⟨_,_,rfl⟩
   ·exact ⟨_,_,rfl⟩
  have HE:Hid (World.ownsRow w1 w.heap.size 44 3 (.slice a1 n k1) n row∧Below w.heap.size w w1):=⟨hown2,hb⟩;clear hown hown2 hgrow hb B1 HS HRw;go_wp2;go_ret;exact ⟨_,_,rfl,HE.out.1,HE.out.2⟩
end
section
open Go.RowKit Go.Lib Go.Proofs.Tryz
section
variable {P:Program} {o:Oper} {a:Act} {w w':World} {K:Act→World→Prop} {Q:Exit→Act→World→Prop}
theorem wp_sput_run (t:TypeId) (m k x:Operand) (ho:o.op=.mapUpdate t m k x) (u1 u2 u3:Value) (h1:a.eval m=u1) (h2:a.eval k=u2) (h3:a.eval x=u3) (hr:(Instr.mapUpdate t u1 u2 u3).run P w=.ok () w') (h:K (a.put o.dst undef) w'):o.wp P a w K Q:=by
 unfold Oper.wp execOp;simp only [ho,Sem.run_bind,Sem.run_pure,Result.andThen_ok,h1,h2,h3,hr];exact h
end
section
variable {P:Program} {ops:Array Oper} {Q:Exit→Act→World→Prop} {md:Region.Mode} {T:World→Prop} {g:Nat}
theorem Qjn {i fuel:Nat} {listed:Array Bool} {a:Act} {w:World} (hr:Region.ready md ops listed=[i])
  (h:wpOp P ops Q i (fun a' w'=>T w'∧QbF P md ops Q g T fuel (listed.setIfInBounds i true) a' w') a w):QbF P md ops Q g T (fuel+1) listed a w:=by
 refine ⟨(fun h0=>by rw [hr] at h0;simp at h0),fun j hj=>?_⟩
 rw [hr] at hj;obtain rfl:=List.mem_singleton.1 hj;exact wpOp_mono (fun a' w' h'=>⟨fun _=>h'.1,h'.2⟩) h
end
section
variable {W:World} {n0 bj bm:Nat} {v:Value} {es:List Je}
end
end
section
open Go.RowKit Go.Lib Go.Proofs.Tryz
theorem ln_keep {W W':World} {n:Nat} {v:Value} {l:List Ln} (h:Qab W n v l) (hb:∀ (j:Nat) (cs:Array Value) (fr:Nat×Nat),W.heap[j]? = some (.cells cs 44 fr)→W'.heap[j]? = W.heap[j]?):Qab W' n v l:=by
 rcases h.2 with ⟨hv,hn⟩ | ⟨g1,c1,cur,hv,hb1,hh,r⟩
 ·exact ⟨h.1,.inl ⟨hv,hn⟩⟩
 ·exact ⟨h.1,.inr ⟨g1,c1,cur,hv,hb1,(hb g1 _ _ hh).trans hh,r⟩⟩
theorem Qbf.typ {w:World} {n:Nat} {v:Value} {xs:List Je} (h:Qbf w n v xs):∀ j,v.ownBlock=some j→∃ cs,w.heap[j]? = some (.cells cs 38 (0,0)):=fun j ej=>by
 rcases h.2 with ⟨rfl,_⟩ | ⟨g,cp,cur,rfl,hg,hh,_⟩
 ·cases ej
 ·cases ej;exact ⟨cur,hh⟩
section
variable {W:World} {n0 bj bm:Nat} {v:Value} {es:List Je}
end
end
end Go.Proofs.YtibhgngboljhfaaGreatDoor
