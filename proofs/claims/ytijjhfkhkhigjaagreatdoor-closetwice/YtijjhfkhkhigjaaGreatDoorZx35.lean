/-
  A stage of a period that fails changes nothing, and one that does not fail brings the period one stage further: for every chart, all rates, plans, pools, entries and periods, where the laid tables hold what the program lays.
-/
import Derived.Test.YtijjhfkhkhigjaaGreatDoorZx16
import Derived.Deep.Slices
import Derived.OpenShut
import Derived.Test.YtijjhfkhkhigjaaGreatDoorZx0
import Derived.Test.YtijjhfkhkhigjaaGreatDoorZx5
import Derived.Test.YtijjhfkhkhigjaaGreatDoorZx30
import Derived.Test.YtijjhfkhkhigjaaGreatDoorZx6
import Derived.Test.YtijjhfkhkhigjaaGreatDoorZx12
import Derived.Test.YtijjhfkhkhigjaaGreatDoorZx32
import Derived.Test.YtijjhfkhkhigjaaGreatDoorRows
import Derived.Test.YtijjhfkhkhigjaaGreatDoorCards
import Derived.Test.YtijjhfkhkhigjaaGreatDoorTie
import Derived.Test.YtijjhfkhkhigjaaGreatDoorZx34
import Derived.ChangeSame
import Derived.ChangeVars
import Derived.JoinedOf
import Derived.RowKit
import Derived.RowKitTokens
import Derived.LaidLaws
import Derived.LaidHandle
import Derived.Stop.Joined
import Derived.SevenTiedAt
import Derived.ProofKit
import Derived.Below
import Derived.ShutString
import Derived.ChangeOld
import Derived.SizedLaws
import Derived.Lib.LaidTab
import Derived.Stop.LaidErr
set_option linter.unusedVariables false
set_option maxRecDepth 100000
set_option linter.unusedSimpArgs false
namespace Go.Proofs.YtijjhfkhkhigjaaGreatDoor
open Go.RowKit Go.Lib Go.Maps Go.Deep
section
variable {H:Type} {enc:TypeId×Value→H} {w:World} {base:Nat} {spare:Nat→Bool} {held:Bool}
theorem cell_string {m:Nat} {c:Value} {y:DataW H×List MemPlace} (h:DataW.trod enc Tryz.prog w base spare held m 9 [c]=some y):∃ s,c=.string s∧s.size≤maxLen:=by
 cases m with
 | zero=>simp [DataW.trod] at h
 | succ m=>
  rw [DataW.trod_step] at h
  unfold DataW.trodStep at h
  rw [Tryz.underlying9] at h
  cases c <;> simp at h
  exact ⟨_,rfl,h.1⟩
theorem cell_int {m:Nat} {c:Value} {y:DataW H×List MemPlace} (h:DataW.trod enc Tryz.prog w base spare held m 3 [c]=some y):∃ n,c=.int .i64 n∧(Lit.int .i64 n).wf=true:=by
 cases m with
 | zero=>simp [DataW.trod] at h
 | succ m=>
  rw [DataW.trod_step] at h
  unfold DataW.trodStep at h
  rw [Tryz.underlying3] at h
  cases c <;> simp at h
  rename_i k n
  obtain ⟨⟨rfl,h2⟩,_⟩:=h
  exact ⟨n,rfl,h2⟩
def RtOk (r:Rt):Prop:=r.frm.size≤maxLen∧r.dst.size≤maxLen∧(Lit.int .i64 r.per).wf=true∧(Lit.int .i64 r.num).wf=true∧(Lit.int .i64 r.den).wf=true
theorem rate_cells:Tryz.prog.cellsOf 60=5:=by kernel_rfl
theorem open_rate {m:Nat} {cs:List Value} {x:DataW H×List MemPlace} (h:DataW.trod enc Tryz.prog w base spare held m 60 cs=some x):∃ r:Rt,cs=r.cells.toList∧RtOk r:=by
 cases m with
 | zero=>simp [DataW.trod] at h
 | succ m=>
  rw [DataW.trod_step] at h
  unfold DataW.trodStep at h
  rw [Tryz.underlying60] at h
  simp only [rate_cells] at h
  split at h
  ·rename_i hl
   match cs,hl with
   | [c0,c1,c2,c3,c4],_=>
    simp [str_cells,int_cells] at h
    cases h0:DataW.trod enc Tryz.prog w base spare held m 9 [c0]
    ·simp [h0] at h
    cases h1:DataW.trod enc Tryz.prog w base spare held m 9 [c1]
    ·simp [h0,h1] at h
    cases h2:DataW.trod enc Tryz.prog w base spare held m 3 [c2]
    ·simp [h0,h1,h2] at h
    cases h3:DataW.trod enc Tryz.prog w base spare held m 3 [c3]
    ·simp [h0,h1,h2,h3] at h
    cases h4:DataW.trod enc Tryz.prog w base spare held m 3 [c4]
    ·simp [h0,h1,h2,h3,h4] at h
    obtain ⟨f,rfl,hf⟩:=cell_string h0
    obtain ⟨t,rfl,ht⟩:=cell_string h1
    obtain ⟨p,rfl,hp⟩:=cell_int h2
    obtain ⟨n,rfl,hn⟩:=cell_int h3
    obtain ⟨d,rfl,hd⟩:=cell_int h4
    exact ⟨⟨f,t,p,n,d⟩,rfl,hf,ht,hp,hn,hd⟩
  ·cases h
theorem rt_cells (w:World) (b off:Nat) (r:Rt) (h:∀ i,i<5→w.cell? ⟨b,off+i,none⟩=r.cells.toList[i]?):RtAt w b off r:=
 ⟨h 0 (by omega),h 1 (by omega),h 2 (by omega),h 3 (by omega),h 4 (by omega)⟩
theorem add_none (b off n:Nat):(⟨b,off,none⟩:Addr).add n=⟨b,off+n,none⟩:=by
 unfold Addr.add
 split
 ·rename_i h;subst h;rfl
 ·rfl
end
end Go.Proofs.YtijjhfkhkhigjaaGreatDoor
namespace Go.Proofs.YtijjhfkhkhigjaaGreatDoor
open Go.RowKit Go.Lib Go.Deep
section
variable {H:Type} {enc:TypeId×Value→H} {w:World} {base:Nat} {spare:Nat→Bool} {held:Bool}
theorem en_string {m:Nat} {c:Value} {y:DataW H×List MemPlace} (h:DataW.trod enc Tryz.prog w base spare held m 9 [c]=some y):∃ s,c=.string s∧s.size≤maxLen:=by
 cases m with
 | zero=>simp [DataW.trod] at h
 | succ m=>
  rw [DataW.trod_step] at h
  unfold DataW.trodStep at h
  rw [Tryz.underlying9] at h
  cases c <;> simp at h
  exact ⟨_,rfl,h.1⟩
theorem en_int {m:Nat} {c:Value} {y:DataW H×List MemPlace} (h:DataW.trod enc Tryz.prog w base spare held m 3 [c]=some y):∃ n,c=.int .i64 n∧(Lit.int .i64 n).wf=true:=by
 cases m with
 | zero=>simp [DataW.trod] at h
 | succ m=>
  rw [DataW.trod_step] at h
  unfold DataW.trodStep at h
  rw [Tryz.underlying3] at h
  cases c <;> simp at h
  rename_i k n
  obtain ⟨⟨rfl,h2⟩,_⟩:=h
  exact ⟨n,rfl,h2⟩
theorem line_cells:Tryz.prog.cellsOf 116=3:=by kernel_rfl
theorem entry_cells:Tryz.prog.cellsOf 42=4:=by kernel_rfl
theorem line_str:Tryz.prog.cellsOf 9=1:=by kernel_rfl
theorem line_int:Tryz.prog.cellsOf 3=1:=by kernel_rfl
theorem line_sl:Tryz.prog.cellsOf 40=1:=by kernel_rfl
theorem open_line {m:Nat} {cs:List Value} {x:DataW H×List MemPlace} (h:DataW.trod enc Tryz.prog w base spare held m 116 cs=some x):∃ a:Ln,cs=a.cells.toList∧(Lit.int .i64 a.amt).wf=true:=by
 cases m with
 | zero=>simp [DataW.trod] at h
 | succ m=>
  rw [DataW.trod_step] at h
  unfold DataW.trodStep at h
  rw [Tryz.underlying116] at h
  simp only [line_cells] at h
  split at h
  ·rename_i hl
   match cs,hl with
   | [c0,c1,c2],_=>
    simp [line_str,line_int] at h
    cases h0:DataW.trod enc Tryz.prog w base spare held m 9 [c0]
    ·simp [h0] at h
    cases h1:DataW.trod enc Tryz.prog w base spare held m 9 [c1]
    ·simp [h0,h1] at h
    cases h2:DataW.trod enc Tryz.prog w base spare held m 3 [c2]
    ·simp [h0,h1,h2] at h
    obtain ⟨f,rfl,hf⟩:=en_string h0
    obtain ⟨t,rfl,ht⟩:=en_string h1
    obtain ⟨p,rfl,hp⟩:=en_int h2
    exact ⟨⟨f,t,p⟩,rfl,hp⟩
  ·cases h
theorem en_add (b off n:Nat):(⟨b,off,none⟩:Addr).add n=⟨b,off+n,none⟩:=by
 unfold Addr.add
 split
 ·rename_i h;subst h;rfl
 ·rfl
theorem lns_of_trod {W:World} {a:Option Addr} {len cap fuel:Nat} {x:DataW H×List MemPlace} (h:DataW.trod enc Tryz.prog W 0 (fun _=>true) true fuel 40 [.slice a len cap]=some x) :
  ∃ l:List Ln,l.length=len∧IsLn W a l cap∧(∀ x∈l,(Lit.int .i64 x.amt).wf=true):=by
 rcases open_slice Tryz.underlying40 h with ⟨hcs,_⟩ | ⟨x,l,c,m,n,D,Pl,hcs,_,hl,hm,hmm,_,hx⟩
 ·simp at hcs
  obtain ⟨rfl,rfl,rfl⟩:=hcs
  exact ⟨[],rfl,⟨by simp,.inl rfl⟩,by simp⟩
 ·simp at hcs
  obtain ⟨rfl,rfl,rfl⟩:=hcs
  have hmm2:m=cap:=hmm
  rw [line_cells] at hx
  have hr:∀ i,i<len→∃ r:Ln,(∀ j,j<3→W.cell? ((x.add (i*3)).add j)=r.cells.toList[j]?)∧(Lit.int .i64 r.amt).wf=true:=fun i hi=>by
   obtain ⟨cs',h1,h2⟩:=hx i (by omega)
   obtain ⟨r,rfl,hw⟩:=open_line h2
   exact ⟨r,(World.cells?_some h1).2.2,hw⟩
  obtain ⟨f,hf⟩:=@choose_lt Ln ⟨ln0⟩ _ _ hr
  have hget:∀ k,k<len→((List.range len).map f).getD k ln0=f k:=fun k hk=>by simp [List.getD,hk]
  have hlen:((List.range len).map f).length=len:=by simp
  refine ⟨(List.range len).map f,hlen,⟨by rw [hlen];exact hl,?_⟩,?_⟩
  ·by_cases h0:len=0
   ·subst h0
    exact .inl rfl
   ·right
    obtain ⟨b,off,spot⟩:=x
    have hc:W.cell? ⟨b,off,spot⟩=some (.string (f 0).acc):=(hf 0 (by omega)).1 0 (by omega)
    have hspot:spot=none:=World.cell?_spot hc
    subst hspot
    have hlt:b<W.heap.size:=World.block_lt_of_cell? _ _ hc
    refine ⟨b,off,rfl,hlt,fun k hk=>?_⟩
    rw [hlen] at hk
    rw [hget k hk]
    have C:∀ i,i<3→W.cell? ⟨b,off+k*3+i,none⟩=(f k).cells.toList[i]?:=fun i hi=>by
     have:=(hf k hk).1 i hi
     rw [en_add,en_add] at this
     exact this
    exact ⟨C 0 (by omega),C 1 (by omega),C 2 (by omega)⟩
  ·intro y hy
   obtain ⟨k,hk,rfl⟩:=List.mem_map.1 hy
   exact (hf k (List.mem_range.1 hk)).2
theorem entry_of_trod {W:World} {v:Value} {fuel:Nat} {x:DataW H×List MemPlace} (hv:∃ cs,v=.agg cs∧cs.size=4) (h:DataW.trod enc Tryz.prog W 0 (fun _=>true) true fuel 42 v.cells.toList=some x) :
  ∃ (r:ByteArray) (en pe:Int) (a:Option Addr) (l:List Ln) (cap:Nat),v=.agg #[.string r,.int .i64 en,.int .i64 pe,.slice a l.length cap]∧IsLn W a l cap∧(∀ x∈l,(Lit.int .i64 x.amt).wf=true):=by
 obtain ⟨cs,rfl,hs⟩:=hv
 obtain ⟨ls⟩:=cs
 cases fuel with
 | zero=>simp [DataW.trod] at h
 | succ m=>
  rw [DataW.trod_step] at h
  unfold DataW.trodStep at h
  rw [Tryz.underlying42] at h
  simp only [entry_cells,Value.cells] at h
  match ls,hs with
  | [c0,c1,c2,c3],_=>
   simp [line_str,line_int,line_sl] at h
   cases h0:DataW.trod enc Tryz.prog W 0 (fun _=>true) true m 9 [c0]
   ·simp [h0] at h
   cases h1:DataW.trod enc Tryz.prog W 0 (fun _=>true) true m 3 [c1]
   ·simp [h0,h1] at h
   cases h2:DataW.trod enc Tryz.prog W 0 (fun _=>true) true m 3 [c2]
   ·simp [h0,h1,h2] at h
   cases h3:DataW.trod enc Tryz.prog W 0 (fun _=>true) true m 40 [c3]
   ·simp [h0,h1,h2,h3] at h
   obtain ⟨r,rfl,_⟩:=en_string h0
   obtain ⟨en,rfl,_⟩:=en_int h1
   obtain ⟨pe,rfl,_⟩:=en_int h2
   obtain ⟨a,len,cap,rfl⟩:∃ a len cap,c3=.slice a len cap:=by
    rcases open_slice Tryz.underlying40 h3 with ⟨hcs,_⟩ | ⟨x,l,c,m,n,D,Pl,hcs,_⟩
    ·simp at hcs
     exact ⟨_,_,_,hcs⟩
    ·simp at hcs
     exact ⟨_,_,_,hcs⟩
   obtain ⟨l,hl,hsl,hw⟩:=lns_of_trod h3
   subst hl
   exact ⟨r,en,pe,a,l,cap,rfl,hsl,hw⟩
end
end Go.Proofs.YtijjhfkhkhigjaaGreatDoor
namespace Go.Proofs.YtijjhfkhkhigjaaGreatDoor
open Go.RowKit Go.Lib Go.Deep
section
variable {H:Type} {enc:TypeId×Value→H}
theorem jes_of_trod {W:World} {a:Option Addr} {len cap fuel:Nat} {x:DataW H×List MemPlace} (h:DataW.trod enc Tryz.prog W 0 (fun _=>true) true fuel 26 [.slice a len cap]=some x) :
  ∃ L:List Je,L.length=len∧IsJs W a L cap∧len≤maxLen:=by
 rcases open_slice Tryz.underlying26 h with ⟨hcs,_⟩ | ⟨x,l,c,m,n,D,Pl,hcs,_,hl,hm,hmm,_,hx⟩
 ·simp at hcs
  obtain ⟨rfl,rfl,rfl⟩:=hcs
  exact ⟨[],rfl,⟨by simp,.inl rfl,by simp⟩,by unfold maxLen;omega⟩
 ·simp at hcs
  obtain ⟨rfl,rfl,rfl⟩:=hcs
  have hmm2:m=cap:=hmm
  rw [entry_cells] at hx
  have hr:∀ i,i<len→∃ r:Je,W.cell? ((x.add (i*4)).add 0)=some (.string r.ref)∧W.cell? ((x.add (i*4)).add 1)=some (.int .i64 r.ent)∧W.cell? ((x.add (i*4)).add 2)=some (.int .i64 r.per)∧W.cell? ((x.add (i*4)).add 3)=some (.slice r.adr r.lns.length r.cap)∧IsLn W r.adr r.lns r.cap:=fun i hi=>by
   obtain ⟨cs',h1,h2⟩:=hx i (by omega)
   have hc:=World.cells?_some h1
   obtain ⟨r,en,pe,a',l',c',he,hsl,hw⟩:=entry_of_trod (v:=.agg cs'.toArray) ⟨_,rfl,by simpa using hc.2.1⟩ (by simpa [Value.cells] using h2)
   have he':cs'=[.string r,.int .i64 en,.int .i64 pe,.slice a' l'.length c']:=by
    have:=Value.agg.inj he
    simpa using congrArg Array.toList this
   subst he'
   have hc:=hc.2.2
   exact ⟨⟨r,en,pe,a',c',l'⟩,hc 0 (by omega),hc 1 (by omega),hc 2 (by omega),hc 3 (by omega),hsl⟩
  obtain ⟨f,hf⟩:=@choose_lt Je ⟨je0⟩ _ _ hr
  have hget:∀ k,k<len→((List.range len).map f).getD k je0=f k:=fun k hk=>by simp [List.getD,hk]
  have hlen:((List.range len).map f).length=len:=by simp
  refine ⟨(List.range len).map f,hlen,⟨by rw [hlen];exact hl,?_,?_⟩,Nat.le_trans hl hm⟩
  ·by_cases h0:len=0
   ·subst h0
    exact .inl rfl
   ·right
    obtain ⟨b,off,spot⟩:=x
    have hc:W.cell? ⟨b,off,spot⟩=some (.string (f 0).ref):=(hf 0 (by omega)).1
    have hspot:spot=none:=World.cell?_spot hc
    subst hspot
    have hlt:b<W.heap.size:=World.block_lt_of_cell? _ _ hc
    refine ⟨b,off,rfl,hlt,fun k hk=>?_⟩
    rw [hlen] at hk
    rw [hget k hk]
    have:=hf k hk
    simp only [en_add] at this
    exact ⟨this.1,this.2.1,this.2.2.1,this.2.2.2.1⟩
  ·intro y hy
   obtain ⟨k,hk,rfl⟩:=List.mem_map.1 hy
   exact (hf k (List.mem_range.1 hk)).2.2.2.2
end
end Go.Proofs.YtijjhfkhkhigjaaGreatDoor
namespace Go.Proofs.YtijjhfkhkhigjaaGreatDoor
open Go.RowKit Go.Lib Go.Deep
section
variable {H:Type} {enc:TypeId×Value→H}
theorem rts_of_trod {W:World} {a:Option Addr} {len cap fuel:Nat} {x:DataW H×List MemPlace} (h:DataW.trod enc Tryz.prog W 0 (fun _=>true) true fuel 23 [.slice a len cap]=some x) :
  ∃ l:List Rt,l.length=len∧IsRt W a l cap∧RtsOk l∧len≤maxLen:=by
 rcases open_slice Tryz.underlying23 h with ⟨hcs,_⟩ | ⟨x,l,c,m,n,D,Pl,hcs,_,hl,hm,hmm,_,hx⟩
 ·simp at hcs
  obtain ⟨rfl,rfl,rfl⟩:=hcs
  exact ⟨[],rfl,⟨Nat.le_refl _,.inl rfl⟩,fun k hk=>absurd hk (by simp),by unfold maxLen;omega⟩
 ·simp at hcs
  obtain ⟨rfl,rfl,rfl⟩:=hcs
  have hmm2:m=cap:=hmm
  rw [rate_cells] at hx
  have hr:∀ i,i<len→∃ r:Rt,(∀ j,j<5→W.cell? ((x.add (i*5)).add j)=r.cells.toList[j]?)∧RtOk r:=fun i hi=>by
   obtain ⟨cs',h1,h2⟩:=hx i (by omega)
   obtain ⟨r,rfl,ok⟩:=open_rate h2
   exact ⟨r,(World.cells?_some h1).2.2,ok⟩
  obtain ⟨f,hf⟩:=@choose_lt Rt ⟨rt0⟩ _ _ hr
  have hget:∀ k,k<len→((List.range len).map f).getD k rt0=f k:=fun k hk=>by simp [List.getD,hk]
  have hlen:((List.range len).map f).length=len:=by simp
  refine ⟨(List.range len).map f,hlen,⟨by rw [hlen];exact hl,?_⟩,fun k hk=>?_,Nat.le_trans hl hm⟩
  ·by_cases h0:len=0
   ·subst h0
    exact .inl rfl
   ·right
    obtain ⟨b,off,spot⟩:=x
    have hc:W.cell? ⟨b,off,spot⟩=some (.string (f 0).frm):=(hf 0 (by omega)).1 0 (by omega)
    have hspot:spot=none:=World.cell?_spot hc
    subst hspot
    have hlt:b<W.heap.size:=World.block_lt_of_cell? _ _ hc
    refine ⟨b,off,rfl,hlt,fun k hk=>?_⟩
    rw [hlen] at hk
    rw [hget k hk]
    refine rt_cells W b (off+k*5) (f k) (fun i hi=>?_)
    have:=(hf k hk).1 i hi
    rw [add_none,add_none] at this
    exact this
  ·rw [hlen] at hk
   rw [hget k hk]
   exact ⟨⟨(hf k hk).2.1,(hf k hk).2.2.1⟩,(hf k hk).2.2.2.1⟩
theorem jes3_of_trod {W:World} {a:Option Addr} {len cap fuel:Nat} {x:DataW H×List MemPlace} (h:DataW.trod enc Tryz.prog W 0 (fun _=>true) true fuel 26 [.slice a len cap]=some x) :
  ∃ l:List Je,l.length=len∧IsJs W a l cap∧True∧len≤maxLen:=by
 obtain ⟨L,h1,h2,h3⟩:=jes_of_trod h
 exact ⟨L,h1,h2,trivial,h3⟩
end
end Go.Proofs.YtijjhfkhkhigjaaGreatDoor
namespace Go.Proofs.YtijjhfkhkhigjaaGreatDoor
open Go.RowKit Go.Lib Go.Deep
section
variable {H:Type} {enc:TypeId×Value→H} {w:World} {base:Nat} {spare:Nat→Bool} {held:Bool}
theorem pl_string {m:Nat} {c:Value} {y:DataW H×List MemPlace} (h:DataW.trod enc Tryz.prog w base spare held m 9 [c]=some y):∃ s,c=.string s∧s.size≤maxLen:=by
 cases m with
 | zero=>simp [DataW.trod] at h
 | succ m=>
  rw [DataW.trod_step] at h
  unfold DataW.trodStep at h
  rw [Tryz.underlying9] at h
  cases c <;> simp at h
  exact ⟨_,rfl,h.1⟩
theorem pl_int {m:Nat} {c:Value} {y:DataW H×List MemPlace} (h:DataW.trod enc Tryz.prog w base spare held m 3 [c]=some y):∃ n,c=.int .i64 n∧(Lit.int .i64 n).wf=true:=by
 cases m with
 | zero=>simp [DataW.trod] at h
 | succ m=>
  rw [DataW.trod_step] at h
  unfold DataW.trodStep at h
  rw [Tryz.underlying3] at h
  cases c <;> simp at h
  rename_i k n
  obtain ⟨⟨rfl,h2⟩,_⟩:=h
  exact ⟨n,rfl,h2⟩
structure PnOk (p:Pn):Prop where
 ref:p.ref.size≤maxLen
 src:p.src.size≤maxLen
 dst:p.dst.size≤maxLen
 cur:p.cur.size≤maxLen
 ent:(Lit.int .i64 p.ent).wf=true
 amt:(Lit.int .i64 p.amt).wf=true
 fst:(Lit.int .i64 p.fst).wf=true
 per:(Lit.int .i64 p.per).wf=true
theorem plan_cells:Tryz.prog.cellsOf 77=8:=by kernel_rfl
theorem plan_str:Tryz.prog.cellsOf 9=1:=by kernel_rfl
theorem plan_int:Tryz.prog.cellsOf 3=1:=by kernel_rfl
theorem open_plan {m:Nat} {cs:List Value} {x:DataW H×List MemPlace} (h:DataW.trod enc Tryz.prog w base spare held m 77 cs=some x):∃ a:Pn,cs=a.cells.toList∧PnOk a:=by
 cases m with
 | zero=>simp [DataW.trod] at h
 | succ m=>
  rw [DataW.trod_step] at h
  unfold DataW.trodStep at h
  rw [Tryz.underlying77] at h
  simp only [plan_cells] at h
  split at h
  ·rename_i hl
   match cs,hl with
   | [c0,c1,c2,c3,c4,c5,c6,c7],_=>
    simp [plan_str,plan_int] at h
    cases h0:DataW.trod enc Tryz.prog w base spare held m 9 [c0]
    ·simp [h0] at h
    cases h1:DataW.trod enc Tryz.prog w base spare held m 3 [c1]
    ·simp [h0,h1] at h
    cases h2:DataW.trod enc Tryz.prog w base spare held m 9 [c2]
    ·simp [h0,h1,h2] at h
    cases h3:DataW.trod enc Tryz.prog w base spare held m 9 [c3]
    ·simp [h0,h1,h2,h3] at h
    cases h4:DataW.trod enc Tryz.prog w base spare held m 9 [c4]
    ·simp [h0,h1,h2,h3,h4] at h
    cases h5:DataW.trod enc Tryz.prog w base spare held m 3 [c5]
    ·simp [h0,h1,h2,h3,h4,h5] at h
    cases h6:DataW.trod enc Tryz.prog w base spare held m 3 [c6]
    ·simp [h0,h1,h2,h3,h4,h5,h6] at h
    cases h7:DataW.trod enc Tryz.prog w base spare held m 3 [c7]
    ·simp [h0,h1,h2,h3,h4,h5,h6,h7] at h
    obtain ⟨x0,rfl,k0⟩:=pl_string h0
    obtain ⟨x1,rfl,k1⟩:=pl_int h1
    obtain ⟨x2,rfl,k2⟩:=pl_string h2
    obtain ⟨x3,rfl,k3⟩:=pl_string h3
    obtain ⟨x4,rfl,k4⟩:=pl_string h4
    obtain ⟨x5,rfl,k5⟩:=pl_int h5
    obtain ⟨x6,rfl,k6⟩:=pl_int h6
    obtain ⟨x7,rfl,k7⟩:=pl_int h7
    exact ⟨⟨x0,x1,x2,x3,x4,x5,x6,x7⟩,rfl,⟨k0,k2,k3,k4,k1,k5,k6,k7⟩⟩
  ·cases h
theorem pl_add (b off n:Nat):(⟨b,off,none⟩:Addr).add n=⟨b,off+n,none⟩:=by
 unfold Addr.add
 split
 ·rename_i h;subst h;rfl
 ·rfl
theorem pns_of_trod {W:World} {a:Option Addr} {len cap fuel:Nat} {x:DataW H×List MemPlace} (h:DataW.trod enc Tryz.prog W 0 (fun _=>true) true fuel 24 [.slice a len cap]=some x) :
  ∃ l:List Pn,l.length=len∧IsPn W a l cap∧(∀ x∈l,PnOk x)∧len≤maxLen:=by
 rcases open_slice Tryz.underlying24 h with ⟨hcs,_⟩ | ⟨x,l,c,m,n,D,Pl,hcs,hz,hl,hm,hmm,_,hx⟩
 ·simp at hcs
  obtain ⟨rfl,rfl,rfl⟩:=hcs
  exact ⟨[],rfl,⟨by simp,.inl rfl⟩,by simp,by unfold maxLen;omega⟩
 ·simp at hcs
  obtain ⟨rfl,rfl,rfl⟩:=hcs
  have hmm2:m=cap:=hmm
  rw [plan_cells] at hx
  have hr:∀ i,i<len→∃ r:Pn,(∀ j,j<8→W.cell? ((x.add (i*8)).add j)=r.cells.toList[j]?)∧PnOk r:=fun i hi=>by
   obtain ⟨cs',h1,h2⟩:=hx i (by omega)
   obtain ⟨r,rfl,hw⟩:=open_plan h2
   exact ⟨r,(World.cells?_some h1).2.2,hw⟩
  obtain ⟨f,hf⟩:=@choose_lt Pn ⟨pn0⟩ _ _ hr
  have hget:∀ k,k<len→((List.range len).map f).getD k pn0=f k:=fun k hk=>by simp [List.getD,hk]
  have hlen:((List.range len).map f).length=len:=by simp
  refine ⟨(List.range len).map f,hlen,⟨by rw [hlen];exact hl,?_⟩,?_,by omega⟩
  ·by_cases h0:len=0
   ·subst h0
    exact .inl rfl
   ·right
    obtain ⟨b,off,spot⟩:=x
    have hc:W.cell? ⟨b,off,spot⟩=some (.string (f 0).ref):=(hf 0 (by omega)).1 0 (by omega)
    have hspot:spot=none:=World.cell?_spot hc
    subst hspot
    have hlt:b<W.heap.size:=World.block_lt_of_cell? _ _ hc
    refine ⟨b,off,rfl,hlt,fun k hk=>?_⟩
    rw [hlen] at hk
    rw [hget k hk]
    have C:∀ i,i<8→W.cell? ⟨b,off+k*8+i,none⟩=(f k).cells.toList[i]?:=fun i hi=>by
     have:=(hf k hk).1 i hi
     rw [pl_add,pl_add] at this
     exact this
    exact ⟨C 0 (by omega),C 1 (by omega),C 2 (by omega),C 3 (by omega),C 4 (by omega),C 5 (by omega),C 6 (by omega),C 7 (by omega)⟩
  ·intro y hy
   obtain ⟨k,hk,rfl⟩:=List.mem_map.1 hy
   exact (hf k (List.mem_range.1 hk)).2
end
end Go.Proofs.YtijjhfkhkhigjaaGreatDoor
namespace Go.Proofs.YtijjhfkhkhigjaaGreatDoor
open Go.RowKit Go.Lib
section
variable {H:Type} {enc:TypeId×Value→H}
theorem al_str_cells:Tryz.prog.cellsOf 9=1:=by kernel_rfl
theorem al_int_cells:Tryz.prog.cellsOf 3=1:=by kernel_rfl
theorem txs_of_trod {W:World} {a:Option Addr} {len cap fuel:Nat} {x:DataW H×List MemPlace} (h:DataW.trod enc Tryz.prog W 0 (fun _=>true) true fuel 80 [.slice a len cap]=some x) :
  ∃ l:List ByteArray,l.length=len∧IsTx W a l cap∧(∀ t∈l,t.size≤maxLen)∧len≤maxLen:=by
 rcases Go.Deep.open_slice Tryz.underlying80 h with ⟨hcs,_⟩ | ⟨x,l,c,m,n,D,Pl,hcs,_,hl,hm,hmm,_,hx⟩
 ·simp at hcs
  obtain ⟨rfl,rfl,rfl⟩:=hcs
  exact ⟨[],rfl,⟨by simp,.inl rfl⟩,by simp,by unfold maxLen;omega⟩
 ·simp at hcs
  obtain ⟨rfl,rfl,rfl⟩:=hcs
  have hmm2:m=cap:=hmm
  rw [al_str_cells] at hx
  have hr:∀ i,i<len→∃ r:ByteArray,W.cell? (x.add (i*1))=some (.string r)∧r.size≤maxLen:=fun i hi=>by
   obtain ⟨cs',h1,h2⟩:=hx i (by omega)
   have hl1:cs'.length=1:=(World.cells?_some h1).2.1
   match cs',hl1 with
   | [c0],_=>
    obtain ⟨s,rfl,hs⟩:=ld_cell_string h2
    have:=(World.cells?_some h1).2.2 0 (by omega)
    simp [Addr.add] at this
    refine ⟨s,?_,hs⟩
    simpa [Addr.add] using this
  obtain ⟨f,hf⟩:=@Go.Deep.choose_lt ByteArray ⟨ByteArray.empty⟩ _ _ hr
  have hget:∀ k,k<len→((List.range len).map f).getD k ByteArray.empty=f k:=fun k hk=>by simp [List.getD,hk]
  have hlen:((List.range len).map f).length=len:=by simp
  refine ⟨(List.range len).map f,hlen,⟨by rw [hlen];exact hl,?_⟩,?_,Nat.le_trans hl hm⟩
  ·by_cases h0:len=0
   ·subst h0
    exact .inl rfl
   ·right
    obtain ⟨b,off,spot⟩:=x
    have hc:=(hf 0 (by omega)).1
    simp only [Nat.zero_mul] at hc
    have hc':W.cell? ⟨b,off,spot⟩=some (.string (f 0)):=by simpa [Addr.add] using hc
    have hspot:spot=none:=World.cell?_spot hc'
    subst hspot
    refine ⟨b,off,rfl,World.block_lt_of_cell? _ _ hc',fun k hk=>?_⟩
    rw [hlen] at hk
    rw [hget k hk]
    have:=(hf k hk).1
    rw [Nat.mul_one,ld_add] at this
    exact this
  ·intro y hy
   obtain ⟨k,hk,rfl⟩:=List.mem_map.1 hy
   exact (hf k (List.mem_range.1 hk)).2
theorem ws_of_trod {W:World} {a:Option Addr} {len cap fuel:Nat} {x:DataW H×List MemPlace} (h:DataW.trod enc Tryz.prog W 0 (fun _=>true) true fuel 27 [.slice a len cap]=some x) :
  ∃ l:List Int,l.length=len∧IsW W a l cap∧(∀ t∈l,-9223372036854775808≤t∧t≤9223372036854775807)∧len≤maxLen:=by
 rcases Go.Deep.open_slice Tryz.underlying27 h with ⟨hcs,_⟩ | ⟨x,l,c,m,n,D,Pl,hcs,_,hl,hm,hmm,_,hx⟩
 ·simp at hcs
  obtain ⟨rfl,rfl,rfl⟩:=hcs
  exact ⟨[],rfl,⟨by simp,.inl rfl⟩,by simp,by unfold maxLen;omega⟩
 ·simp at hcs
  obtain ⟨rfl,rfl,rfl⟩:=hcs
  have hmm2:m=cap:=hmm
  rw [al_int_cells] at hx
  have hr:∀ i,i<len→∃ r:Int,W.cell? (x.add (i*1))=some (.int .i64 r)∧(-9223372036854775808≤r∧r≤9223372036854775807):=fun i hi=>by
   obtain ⟨cs',h1,h2⟩:=hx i (by omega)
   have hl1:cs'.length=1:=(World.cells?_some h1).2.1
   match cs',hl1 with
   | [c0],_=>
    obtain ⟨s,rfl,hs⟩:=ld_cell_int h2
    have:=(World.cells?_some h1).2.2 0 (by omega)
    simp [Addr.add] at this
    refine ⟨s,?_,ld_wf hs⟩
    simpa [Addr.add] using this
  obtain ⟨f,hf⟩:=@Go.Deep.choose_lt Int ⟨0⟩ _ _ hr
  have hget:∀ k,k<len→((List.range len).map f).getD k 0=f k:=fun k hk=>by simp [List.getD,hk]
  have hlen:((List.range len).map f).length=len:=by simp
  refine ⟨(List.range len).map f,hlen,⟨by rw [hlen];exact hl,?_⟩,?_,Nat.le_trans hl hm⟩
  ·by_cases h0:len=0
   ·subst h0
    exact .inl rfl
   ·right
    obtain ⟨b,off,spot⟩:=x
    have hc:=(hf 0 (by omega)).1
    simp only [Nat.zero_mul] at hc
    have hc':W.cell? ⟨b,off,spot⟩=some (.int .i64 (f 0)):=by simpa [Addr.add] using hc
    have hspot:spot=none:=World.cell?_spot hc'
    subst hspot
    refine ⟨b,off,rfl,World.block_lt_of_cell? _ _ hc',fun k hk=>?_⟩
    rw [hlen] at hk
    rw [hget k hk]
    have:=(hf k hk).1
    rw [Nat.mul_one,ld_add] at this
    exact this
  ·intro y hy
   obtain ⟨k,hk,rfl⟩:=List.mem_map.1 hy
   exact (hf k (List.mem_range.1 hk)).2
theorem al_pool_cells:Tryz.prog.cellsOf 82=4:=by kernel_rfl
theorem al_txs_cells:Tryz.prog.cellsOf 80=1:=by kernel_rfl
theorem al_ws_cells:Tryz.prog.cellsOf 27=1:=by kernel_rfl
theorem al_cell_txs {w:World} {base:Nat} {spare:Nat→Bool} {held:Bool} {m:Nat} {c:Value} {y:DataW H×List MemPlace} (h:DataW.trod enc Tryz.prog w base spare held m 80 [c]=some y):∃ a len cap,c=.slice a len cap:=by
 rcases Go.Deep.open_slice Tryz.underlying80 h with ⟨hcs,_⟩ | ⟨x,l,c',m,n,D,Pl,hcs,_⟩
 ·simp at hcs;exact ⟨_,_,_,hcs⟩
 ·simp at hcs;exact ⟨_,_,_,hcs⟩
theorem al_cell_ws {w:World} {base:Nat} {spare:Nat→Bool} {held:Bool} {m:Nat} {c:Value} {y:DataW H×List MemPlace} (h:DataW.trod enc Tryz.prog w base spare held m 27 [c]=some y):∃ a len cap,c=.slice a len cap:=by
 rcases Go.Deep.open_slice Tryz.underlying27 h with ⟨hcs,_⟩ | ⟨x,l,c',m,n,D,Pl,hcs,_⟩
 ·simp at hcs;exact ⟨_,_,_,hcs⟩
 ·simp at hcs;exact ⟨_,_,_,hcs⟩
theorem al_open_pool {w:World} {m:Nat} {cs:List Value} {x:DataW H×List MemPlace} (h:DataW.trod enc Tryz.prog w 0 (fun _=>true) true m 82 cs=some x) :
  ∃ p:Po,cs=p.cells.toList∧PoOk w p∧PoTx p:=by
 cases m with
 | zero=>simp [DataW.trod] at h
 | succ m=>
  rw [DataW.trod_step] at h
  unfold DataW.trodStep at h
  rw [Tryz.underlying82] at h
  simp only [al_pool_cells] at h
  split at h
  ·rename_i hl
   match cs,hl with
   | [c0,c1,c2,c3],_=>
    simp [ldP_str,al_txs_cells,al_ws_cells] at h
    cases h0:DataW.trod enc Tryz.prog w 0 (fun _=>true) true m 9 [c0]
    ·simp [h0] at h
    cases h1:DataW.trod enc Tryz.prog w 0 (fun _=>true) true m 9 [c1]
    ·simp [h0,h1] at h
    cases h2:DataW.trod enc Tryz.prog w 0 (fun _=>true) true m 80 [c2]
    ·simp [h0,h1,h2] at h
    cases h3:DataW.trod enc Tryz.prog w 0 (fun _=>true) true m 27 [c3]
    ·simp [h0,h1,h2,h3] at h
    obtain ⟨s,rfl,hs⟩:=ld_cell_string h0
    obtain ⟨t,rfl,ht⟩:=ld_cell_string h1
    obtain ⟨a,len,cap,rfl⟩:=al_cell_txs h2
    obtain ⟨l,rfl,g1,g2,g3⟩:=txs_of_trod h2
    obtain ⟨a',len',cap',rfl⟩:=al_cell_ws h3
    obtain ⟨l',rfl,k1,k2,k3⟩:=ws_of_trod h3
    unfold maxLen at g3 k3
    exact ⟨⟨s,t,a,cap,l,a',cap',l'⟩,rfl,⟨g1,k1,by show l.length≤_;omega,by show l'.length≤_;omega⟩,⟨hs,ht,g2⟩⟩
  ·cases h
theorem pos_of_trod {W:World} {a:Option Addr} {len cap fuel:Nat} {x:DataW H×List MemPlace} (h:DataW.trod enc Tryz.prog W 0 (fun _=>true) true fuel 25 [.slice a len cap]=some x) :
  ∃ L:List Po,L.length=len∧IsPs W a L cap∧(∀ p∈L,PoTx p)∧len≤maxLen:=by
 rcases Go.Deep.open_slice Tryz.underlying25 h with ⟨hcs,_⟩ | ⟨x,l,c,m,n,D,Pl,hcs,_,hl,hm,hmm,hxx,hx⟩
 ·simp at hcs
  obtain ⟨rfl,rfl,rfl⟩:=hcs
  exact ⟨[],rfl,⟨by simp,.inl rfl,by simp⟩,by simp,by unfold maxLen;omega⟩
 ·simp at hcs
  obtain ⟨rfl,rfl,rfl⟩:=hcs
  have hmm2:m=cap:=hmm
  rw [al_pool_cells] at hx
  have hr:∀ i,i<len→∃ r:Po,(∀ j,j<4→W.cell? ((x.add (i*4)).add j)=r.cells.toList[j]?)∧PoOk W r∧PoTx r:=fun i hi=>by
   obtain ⟨cs',h1,h2⟩:=hx i (by omega)
   obtain ⟨r,rfl,hw⟩:=al_open_pool h2
   exact ⟨r,(World.cells?_some h1).2.2,hw⟩
  obtain ⟨f,hf⟩:=@Go.Deep.choose_lt Po ⟨po0⟩ _ _ hr
  have hget:∀ k,k<len→((List.range len).map f).getD k po0=f k:=fun k hk=>by simp [List.getD,hk]
  have hlen:((List.range len).map f).length=len:=by simp
  refine ⟨(List.range len).map f,hlen,⟨by rw [hlen];exact hl,?_,?_⟩,?_,Nat.le_trans hl hm⟩
  ·by_cases h0:len=0
   ·subst h0
    exact .inl rfl
   ·right
    obtain ⟨b,off,spot⟩:=x
    have hc:W.cell? ⟨b,off,spot⟩=some (.string (f 0).acc):=(hf 0 (by omega)).1 0 (by omega)
    have hspot:spot=none:=World.cell?_spot hc
    subst hspot
    refine ⟨b,off,rfl,World.block_lt_of_cell? _ _ hc,fun k hk=>?_⟩
    rw [hlen] at hk
    rw [hget k hk]
    have C:∀ i,i<4→W.cell? ⟨b,off+k*4+i,none⟩=(f k).cells.toList[i]?:=fun i hi=>by
     have:=(hf k hk).1 i hi
     rw [ld_add,ld_add] at this
     exact this
    exact ⟨C 0 (by omega),C 1 (by omega),C 2 (by omega),C 3 (by omega)⟩
  ·intro y hy
   obtain ⟨k,hk,rfl⟩:=List.mem_map.1 hy
   exact (hf k (List.mem_range.1 hk)).2.1
  ·intro y hy
   obtain ⟨k,hk,rfl⟩:=List.mem_map.1 hy
   exact (hf k (List.mem_range.1 hk)).2.2
end
end Go.Proofs.YtijjhfkhkhigjaaGreatDoor
namespace Go.Proofs.YtijjhfkhkhigjaaGreatDoor
open Go.ChangeShapes Go.WideShapes Go.RowKit Go.ChangeAt Go.Deep
open Go.ChangeMaps (open_string shut_string)
theorem ctp_own:ownKnob Tryz.prog.godebug=none:=by kernel_rfl
theorem ctp_laidOut:laidOutB Tryz.prog=true:=by kernel_rfl
def ctp_cells (d:DataW Unit):Array Value:=
 match d with
 | .agg l=>(l.map fun x=>match x with
  | .lit (.int k z)=>Value.int k z
  | _=>.bool false).toArray
 | _=>#[]
def ctp_put (cs:Array Value) (o:Obj):Obj:=
 match o with
 | .cells _ t frozen=>.cells cs t frozen
 | o=>o
theorem ctp_gTab : Tryz.prog.globalNamed "internal/strconv.uint64pow10" = some 0 := by kernel_rfl
theorem ctp_gType:(Tryz.prog.globals[0]?).map (·.type)=some 237:=by kernel_rfl
theorem ctp_cellsT:Tryz.prog.cellsOf 237=20:=by kernel_rfl
theorem ctp_cellsE:Tryz.prog.cellsOf 205=1:=by kernel_rfl
theorem ctp_table {W:World} (h:laidMetH Tryz.prog Rows.closeTwiceRow.laid W):TabW W:=by
 have h1:laidMet Tryz.prog Rows.closeTwiceRow.laid W:=h
 have h2 : laidMet Tryz.prog (("internal/strconv.uint64pow10", Lib.tabData .u64 Lib.pow10Tab) :: []) W := (laidMet.tail (laidMet.tail h1))
 exact Lib.tabIs_of_head ctp_gTab ctp_gType Tryz.underlying237 Tryz.underlying205 ctp_cellsE ctp_cellsT h2
theorem ctp_met (os:Os) (args:Array Value):laidMetH Tryz.prog Rows.closeTwiceRow.laid ((({ World.holding Tryz.prog os ⟨#[],#[],[]⟩ with heap:=(((World.holding Tryz.prog os ⟨#[],#[],[]⟩).heap.modify 3 (ctp_put (ctp_cells Rows.laid_math_bits_deBruijn32tab))).modify 4 (ctp_put (ctp_cells Rows.laid_math_bits_deBruijn64tab))).modify 0 (ctp_put (ctp_cells Rows.laid_internal_strconv_uint64pow10)) }:World).forCall (fun _ _=>0) ⟨#[],args,[]⟩).memory):=
 (show laidMet Tryz.prog Rows.closeTwiceRow.laid _ from laidMet_of_run' 8 (by kernel_rfl) (by kernel_rfl))
set_option maxRecDepth 100000 in
theorem ctp_lifted (os:Os) (started:os.Started) (H:Type) (enc:TypeId×Value→H) :
  ReturnsInHanded {} Tryz.checked os 3 .any (fun w args=>(Rows.closeTwiceSpec.pre enc Tryz.prog Tryz.f3 [] false w args∧laidMetH Tryz.prog Rows.closeTwiceRow.laid w)∧sizedMet enc Tryz.prog Tryz.f3 (OpenSpec.ofChange Rows.closeTwiceSpec) false w args)
   (Rows.closeTwiceSpec.post enc Tryz.prog Tryz.f3 false true false false):=by
 refine returnsInHanded_of_change_and (C:=Tryz.checked) (X:=fun w _=>laidMetH Tryz.prog Rows.closeTwiceRow.laid w) (fun _ _ _ hh h=>h.of_heap hh) ctp_own started (by kernel_rfl) Tryz.func3
  (ChangeSpec.witness_at (enc:=enc) (C:=Tryz.checked) (os:=os) (X:=fun w _=>laidMetH Tryz.prog Rows.closeTwiceRow.laid w) false ({ World.holding Tryz.prog os ⟨#[],#[],[]⟩ with heap:=(((World.holding Tryz.prog os ⟨#[],#[],[]⟩).heap.modify 3 (ctp_put (ctp_cells Rows.laid_math_bits_deBruijn32tab))).modify 4 (ctp_put (ctp_cells Rows.laid_math_bits_deBruijn64tab))).modify 0 (ctp_put (ctp_cells Rows.laid_internal_strconv_uint64pow10)) }:World) #[.slice none 0 0,.slice none 0 0,.slice none 0 0,.slice none 0 0,.slice none 0 0,.slice none 0 0] 8 rfl (by kernel_rfl) (by kernel_rfl) (by kernel_rfl) (by kernel_rfl) (by kernel_rfl) (ctp_met os _)) ?_
 intro W base args ds gs before hval0 hW hcnd hsz0 hL _
 have ht:=ctp_table hL
 clear hsz0
 have hval:∀ (j:Nat) t v,Tryz.f3.params[j]? = some t→args[j]? = some v→Value.okWide Tryz.prog W .any base t v:=hval0
 have hW':=hW
 obtain ⟨p,q,hA0,hV,rfl,hfz,hnd⟩:=hW
 have hA:DataW.TrodAll enc Tryz.prog W 0 (fun _=>true) true Tryz.f3.params.toList args.toList ds p:=hA0
 rw [Tryz.params3] at hA hval
 obtain ⟨v0,vs0,d0,ds0,p0,q0,hargs,rfl,rfl,h0,r0⟩:=trodAll_cons hA
 obtain ⟨v1,vs1,d1,ds1,p1,q1,rfl,rfl,rfl,h1,r1⟩:=trodAll_cons r0
 obtain ⟨v2,vs2,d2,ds2,p2,q2,rfl,rfl,rfl,h2,r2⟩:=trodAll_cons r1
 obtain ⟨v3,vs3,d3,ds3,p3,q3,rfl,rfl,rfl,h3,r3⟩:=trodAll_cons r2
 obtain ⟨v4,vs4,d4,ds4,p4,q4,rfl,rfl,rfl,h4,r4⟩:=trodAll_cons r3
 obtain ⟨v5,vs5,d5,ds5,p5,q5,rfl,rfl,rfl,h5,r5⟩:=trodAll_cons r4
 obtain ⟨rfl,rfl,rfl⟩:=trodAll_nil r5
 obtain rfl:args=#[v0,v1,v2,v3,v4,v5]:=by cases args;simp_all
 obtain ⟨rfl,rfl⟩:=trodVars_none hV
 obtain ⟨a0,len0,cap0,rfl⟩:=okWide_slice Tryz.underlying22 (hval 0 22 v0 rfl rfl)
 have k0:=h0
 have lt0:∀ x∈p0,x.block<W.heap.size:=by obtain ⟨m,hm⟩:=k0;exact DataW.trod_lt m _ _ _ hm
 obtain ⟨l0,hl0,ho0,hi0⟩:∃ l:List Ac,l.length=len0∧(∀ k,k<l.length→AcOk (l.getD k ac0))∧IsSl W a0 l cap0:=by
  obtain ⟨fuel,hf⟩:=h0
  exact acs_of_trod hf
 subst hl0
 obtain ⟨a1,len1,cap1,rfl⟩:=okWide_slice Tryz.underlying23 (hval 1 23 v1 rfl rfl)
 have k1:=h1
 have lt1:∀ x∈p1,x.block<W.heap.size:=by obtain ⟨m,hm⟩:=k1;exact DataW.trod_lt m _ _ _ hm
 obtain ⟨l1,hl1,hi1,ho1,hm1⟩:∃ l:List Rt,l.length=len1∧IsRt W a1 l cap1∧RtsOk l∧len1≤maxLen:=by
  obtain ⟨fuel,hf⟩:=h1
  exact rts_of_trod hf
 subst hl1
 have hb1:l1.length≤9223372036854775807:=by unfold maxLen at hm1;exact hm1
 obtain ⟨a2,len2,cap2,rfl⟩:=okWide_slice Tryz.underlying24 (hval 2 24 v2 rfl rfl)
 have k2:=h2
 have lt2:∀ x∈p2,x.block<W.heap.size:=by obtain ⟨m,hm⟩:=k2;exact DataW.trod_lt m _ _ _ hm
 obtain ⟨l2,hl2,hi2,ho2,hm2⟩:∃ l:List Pn,l.length=len2∧IsPn W a2 l cap2∧(∀ x∈l,PnOk x)∧len2≤maxLen:=by
  obtain ⟨fuel,hf⟩:=h2
  exact pns_of_trod hf
 subst hl2
 have hb2:l2.length≤9223372036854775807:=by unfold maxLen at hm2;exact hm2
 obtain ⟨a3,len3,cap3,rfl⟩:=okWide_slice Tryz.underlying25 (hval 3 25 v3 rfl rfl)
 have k3:=h3
 have lt3:∀ x∈p3,x.block<W.heap.size:=by obtain ⟨m,hm⟩:=k3;exact DataW.trod_lt m _ _ _ hm
 obtain ⟨l3,hl3,hi3,ho3,hm3⟩:∃ l:List Po,l.length=len3∧IsPs W a3 l cap3∧(∀ p∈l,PoTx p)∧len3≤maxLen:=by
  obtain ⟨fuel,hf⟩:=h3
  exact pos_of_trod hf
 subst hl3
 have hb3:l3.length≤9223372036854775807:=by unfold maxLen at hm3;exact hm3
 obtain ⟨a4,len4,cap4,rfl⟩:=okWide_slice Tryz.underlying26 (hval 4 26 v4 rfl rfl)
 have k4:=h4
 have lt4:∀ x∈p4,x.block<W.heap.size:=by obtain ⟨m,hm⟩:=k4;exact DataW.trod_lt m _ _ _ hm
 obtain ⟨l4,hl4,hi4,ho4,hm4⟩:∃ l:List Je,l.length=len4∧IsJs W a4 l cap4∧True∧len4≤maxLen:=by
  obtain ⟨fuel,hf⟩:=h4
  exact jes3_of_trod hf
 subst hl4
 have hb4:l4.length≤9223372036854775807:=by unfold maxLen at hm4;exact hm4
 obtain ⟨a5,len5,cap5,rfl⟩:=okWide_slice Tryz.underlying27 (hval 5 27 v5 rfl rfl)
 have k5:=h5
 have lt5:∀ x∈p5,x.block<W.heap.size:=by obtain ⟨m,hm⟩:=k5;exact DataW.trod_lt m _ _ _ hm
 obtain ⟨l5,hl5,hi5,ho5,hm5⟩:∃ l:List Int,l.length=len5∧IsW W a5 l cap5∧(∀ t∈l,-9223372036854775808≤t∧t≤9223372036854775807)∧len5≤maxLen:=by
  obtain ⟨fuel,hf⟩:=h5
  exact ws_of_trod hf
 subst hl5
 have hb5:l5.length≤9223372036854775807:=by unfold maxLen at hm5;exact hm5
 clear hA0 hval0
 refine (twice_walk_cl a0 a1 a2 a3 a4 a5 cap0 cap1 cap2 cap3 cap4 cap5 l0 l1 l2 l3 l4 l5 W hi0 hi1 ho1 hi2 hb2 hi3 hb3 hi4 hb4 hi5 hb5 ht).mono fun e W' ⟨he,bel⟩=>?_
 subst he
 exact ⟨_,rfl,_,_,_,[],_,[],hW',trodAll_mk1 (shut_bool Tryz.underlying4 _),(trodAll_cons_mk (Below.trod ctp_laidOut (by kernel_rfl) (of_decide_eq_true (by kernel_rfl)) k0 bel lt0) (trodAll_cons_mk (Below.trod ctp_laidOut (by kernel_rfl) (of_decide_eq_true (by kernel_rfl)) k1 bel lt1) (trodAll_cons_mk (Below.trod ctp_laidOut (by kernel_rfl) (of_decide_eq_true (by kernel_rfl)) k2 bel lt2) (trodAll_cons_mk (Below.trod ctp_laidOut (by kernel_rfl) (of_decide_eq_true (by kernel_rfl)) k3 bel lt3) (trodAll_cons_mk (Below.trod ctp_laidOut (by kernel_rfl) (of_decide_eq_true (by kernel_rfl)) k4 bel lt4) (trodAll_cons_mk (Below.trod ctp_laidOut (by kernel_rfl) (of_decide_eq_true (by kernel_rfl)) k5 bel lt5) trodAll_mk0)))))),rfl,bel.frame _,fun h=>by cases h⟩
theorem ctp_over:Rows.CloseTwiceSaid:=
 OpenClaim.holds_of_wide 3 Tryz.f3 rfl rfl rfl rfl rfl rfl rfl ⟨rfl,rfl,rfl,rfl,rfl⟩ rfl rfl rfl rfl rfl (by kernel_rfl) Tryz.func3 (by kernel_rfl)
  (of_decide_eq_true (by kernel_rfl)) (by unfold Func.isWrapper;first | (rw [if_pos (by decide +kernel)];kernel_rfl) | (rw [if_neg (by decide +kernel)];exact ⟨rfl,rfl⟩))
  (fun os started H enc _=>ctp_lifted os started H enc)
theorem closeTwice_holds:Rows.CloseTwiceCardSaid:=
 Claim7.holds_tied_plain_at .later [] [.data,.data,.data] true _ false
  ctp_over (fun _ h=>by cases h) (by kernel_rfl) (fun _ h=>by cases h) closeTwice_row_tie rfl ⟨rfl,rfl⟩ (by kernel_rfl) rfl
  (fun f fn hf hfn=>by
   obtain rfl : f = 3 := Option.some.inj ((show Tryz.prog.funcNamed "quarterday/daylaw3.CloseTwice" = some 3 by kernel_rfl).symm.trans hf) |>.symm
   obtain rfl:fn=Tryz.f3:=(Option.some.inj (Tryz.func3.symm.trans hfn)).symm
   exact ⟨by kernel_rfl,fun j t ht=>by
    rw [Tryz.params3] at ht
    have h3:t=22∨t=23∨t=24∨t=25∨t=26∨t=27:=by
     rcases j with _ | _ | _ | _ | _ | _ | j
     ·exact (.inl (by simpa using ht.symm))
     ·exact (.inr (.inl (by simpa using ht.symm)))
     ·exact (.inr (.inr (.inl (by simpa using ht.symm))))
     ·exact (.inr (.inr (.inr (.inl (by simpa using ht.symm)))))
     ·exact (.inr (.inr (.inr (.inr (.inl (by simpa using ht.symm))))))
     ·exact (.inr (.inr (.inr (.inr (.inr (by simpa using ht.symm))))))
     ·simp at ht
    rcases h3 with rfl | rfl | rfl | rfl | rfl | rfl
    ·exact (show Tryz.prog.wantsStandIn 22=false by kernel_rfl)
    ·exact (show Tryz.prog.wantsStandIn 23=false by kernel_rfl)
    ·exact (show Tryz.prog.wantsStandIn 24=false by kernel_rfl)
    ·exact (show Tryz.prog.wantsStandIn 25=false by kernel_rfl)
    ·exact (show Tryz.prog.wantsStandIn 26=false by kernel_rfl)
    ·exact (show Tryz.prog.wantsStandIn 27=false by kernel_rfl)⟩)
  (by kernel_rfl)
#print axioms closeTwice_holds
end Go.Proofs.YtijjhfkhkhigjaaGreatDoor
