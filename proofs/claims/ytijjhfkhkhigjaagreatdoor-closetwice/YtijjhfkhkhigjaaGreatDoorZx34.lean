/-
  Part of a proof (see the last text).
-/
import Derived.Test.YtijjhfkhkhigjaaGreatDoorZx30
import Derived.Test.YtijjhfkhkhigjaaGreatDoorZx33
import Derived.Test.YtijjhfkhkhigjaaGreatDoorZx2
import Derived.Laws.StructEq
import Derived.Test.YtijjhfkhkhigjaaGreatDoorZx6
import Derived.Deep.RegionWith
import Derived.Test.YtijjhfkhkhigjaaGreatDoorZx31
import Derived.Test.YtijjhfkhkhigjaaGreatDoorZx3
import Derived.Deep.Slices
import Derived.OpenShut
set_option linter.unusedVariables false
set_option linter.unusedSimpArgs false
set_option maxRecDepth 100000
namespace Go.Proofs.YtijjhfkhkhigjaaGreatDoor
open Go.RowKit Go.Lib
structure ClS (W:World) (n0 m0 B:Nat) (P:Cp) (S:Cs):Prop where
 at_:ClAt W n0 m0 B P S
 ev:ClEv S
 tab:∀ U,Below n0 W U→TabW U
def zbF (c:List Ac) (R:List Bl):Int:=clBad c R
def zeF (c:List Ac) (kept:ByteArray) (pe:Int) (R:List Bl):List Ep:=if R.length≤200 then clTo c kept pe R else []
theorem zeF_of {c:List Ac} {kept:ByteArray} {pe:Int} {R:List Bl} (h:R.length≤200):zeF c kept pe R=clTo c kept pe R:=if_pos h
theorem zeF_lns (c:List Ac) (kept:ByteArray) (pe:Int) (R:List Bl):∀ x∈zeF c kept pe R,x.lns.length≤1000:=fun x hx=>by
 unfold zeF at hx
 split at hx
 ·rename_i hR
  obtain ⟨k,_,rfl⟩:=List.mem_map.1 hx
  show (cgL kept (bsOf c R k)).length≤1000
  have q1:=List.length_filter_le (fun x=>decide (x.pur=k)) (R.filter (isEarn c))
  have q2:=List.length_filter_le (isEarn c) R
  unfold cgL
  rw [List.length_append,ngL_len]
  unfold bsOf
  split <;> simp only [List.length_cons,List.length_nil] <;> omega
 ·cases hx
section
variable {W:World} {n0 m0 B:Nat} {P:Cp} {S:Cs}
theorem ClS.below {W':World} (h:ClS W n0 m0 B P S) (hb:Below W.heap.size W W'):ClS W' n0 m0 B P S:=by
 refine ⟨h.at_.below hb,h.ev,fun U hU=>h.tab U ?_⟩
 have h1:=h.at_.hB
 have h2:=h.at_.m0
 exact (hb.mono (by omega)).trans hU
theorem clT_ge (h:ClAt W n0 m0 B P S):∀ b,clT B P S.es.length b→n0≤b:=fun b hb=>by
 rcases hb with hb | hb | hb | hb
 ·rw [hb];exact h.hB.1
 ·rw [hb];exact h.hm.1
 ·rw [hb];exact h.hs.1
 ·have:=h.row.own b hb.symm;have:=h.hB;omega
theorem ClAt.low {U:World} (h:ClAt W n0 m0 B P S) (hk:KeepX (clT B P S.es.length) W U):Below n0 W U:=hk.below (by have:=h.hB;have:=h.m0;omega) (clT_ge h)
theorem ClS.keep {U:World} {P':Cp} {S':Cs} {m1:Nat} (h:ClS W n0 m0 B P S) (hb:Below n0 W U) (h1:ClAt U n0 m1 B P' S') (h2:ClEv S'):ClS U n0 m1 B P' S':=⟨h1,h2,fun V hV=>h.tab V (hb.trans hV)⟩
theorem clT_lt (h:ClAt W n0 m0 B P S):∀ b,clT B P S.es.length b→b<W.heap.size:=fun b hb=>by
 have hm:=h.m0
 rcases hb with hb | hb | hb | hb
 ·rw [hb];exact h.lt
 ·rw [hb];exact h.refs.lt
 ·rw [hb];exact h.stg.lt
 ·exact h.row.lt b hb.symm
def AdEnd (W:World) (n0 m0 B:Nat) (P:Cp) (S:Cs) (pe:Int) (e:Ending) (w':World):Prop:=
 (∃ z,z≠0∧e=.returned (.tuple #[.int .i64 0,.iface 51 (.int .i64 z)])∧(avPre S pe=z∨(avPre S pe=0∧∃ R,OeR (ldUpTo pe) S.es R∧avErr S pe R (clBad S.c R) (clTo S.c S.kept pe R)=z))∧Hid (ClS w' n0 m0 B P S∧Below W.heap.size W w')) ∨
 (∃ (n:Nat) (es:List Je) (ea:Option Addr) (ec:Nat) (R:List Bl),e=.returned (.tuple #[.int .i64 (n:Int),.nilIface])∧Hid (ClS w' n0 m0 B { P with ea:=ea,ec:=ec } { S with es:=es,st:=sgPut S.st pe (sgOf S.st pe+1) }∧(Below n0 W w'∧KeepX (clT B P S.es.length) W w') ∧
  avPre S pe=0∧OeR (ldUpTo pe) S.es R∧avErr S pe R (clBad S.c R) (clTo S.c S.kept pe R)=0∧es.length=S.es.length+n∧(∀ k,S.es.length≤k→k<es.length→(es.getD k je0).per=pe∧(es.getD k je0).ref=dashS k) ∧
  es.map Je.ep=S.es.map Je.ep++rnE S.es.length (bgTo S R pe (sgOf S.st pe+1) (clTo S.c S.kept pe R)) (bgTo S R pe (sgOf S.st pe+1) (clTo S.c S.kept pe R)).length))
theorem clAdv_of (hk:EntK S) (h:ClS W n0 m0 B P S) (pe:Int) :
  Calls Tryz.prog 6 #[.pointer (some ⟨B,0,none⟩),.int .i64 pe] W (AdEnd W n0 m0 B P S pe):=by
 refine (advance_any h.at_ h.ev.ok hk h.tab pe (zbF S.c) (zeF S.c S.kept pe) (zeF_lns S.c S.kept pe) (fun ab R cab U hU hR hO=>?_)).mono ?_
 ·rw [zeF_of hO.len]
  exact clCleared_any (h.at_.below hU) h.ev.ok ab R cab pe hR hO.len hO.ok
 ·rintro e w' (⟨h1,rfl,hb⟩ | ⟨h0,R,hR,h2⟩)
  ·refine .inl ⟨avPre S pe,h1,by rw [chE_ne h1],.inl rfl,h.below hb,hb⟩
  ·rw [zeF_of hR.len] at h2
   rcases h2 with ⟨h1,rfl,hb⟩ | ⟨h1,rfl,es,ea,ec,j,hes,hk,_⟩
   ·exact .inl ⟨_,h1,by rw [chE_ne h1],.inr ⟨h0,R,hR,rfl⟩,h.below hb,hb⟩
   ·obtain ⟨g1,g2,g3⟩:=h.ev.adv h0 hR h1 hes
    have hlow:=h.at_.low hk
    exact .inr ⟨_,es,ea,ec,R,rfl,h.keep hlow j g1,⟨hlow,hk⟩,h0,hR,h1,g2,g3,hes⟩
theorem clAdv_any (h:ClS W n0 m0 B P S) (pe:Int) :
  Calls Tryz.prog 6 #[.pointer (some ⟨B,0,none⟩),.int .i64 pe] W (AdEnd W n0 m0 B P S pe):=clAdv_of (EntK.all h.ev.ok) h pe
def PoEnd (W:World) (n0 m0 B:Nat) (P:Cp) (S:Cs) (r:ByteArray) (en pe:Int) (l:List Ln) (e:Ending) (w':World):Prop:=
 (psB S r en pe l≠0∧e=.returned (.tuple #[.int .i64 0,.iface 51 (.int .i64 (psB S r en pe l))])∧Hid (ClS w' n0 m0 B P S∧Below W.heap.size W w')) ∨
 (psB S r en pe l=0∧e=.returned (.tuple #[.int .i64 (S.es.length:Int),.nilIface])∧∃ ea ec a' c',Hid (ClS w' n0 m0 B { P with ea:=ea,ec:=ec } (S.add ⟨r,en,pe,a',c',l⟩)∧Below n0 W w'))
theorem clPost_ev (h:ClS W n0 m0 B P S) (r:ByteArray) (en pe:Int) (a:Option Addr) (cap:Nat) (l:List Ln) (hl:IsLn W a l cap) :
  Calls Tryz.prog 10 #[.pointer (some ⟨B,0,none⟩),.agg #[.string r,.int .i64 en,.int .i64 pe,.slice a l.length cap]] W (PoEnd W n0 m0 B P S r en pe l):=by
 refine (clPost_any h.at_ (by have:=h.ev.ok.len;omega) r en pe a cap l hl).mono ?_
 rintro e w' (⟨h1,rfl,hb⟩ | ⟨h1,rfl,g,cp,a',c',j,hk,_⟩)
 ·exact .inl ⟨h1,rfl,h.below hb,hb⟩
 ·have hlow:=h.at_.low hk
  exact .inr ⟨h1,rfl,some ⟨g,0,none⟩,cp,a',c',h.keep hlow j (h.ev.post h1 a' c'),hlow⟩
theorem clEntries_ev (h:ClS W n0 m0 B P S) :
  Calls Tryz.prog 11 #[.pointer (some ⟨B,0,none⟩)] W fun e w'=>∃ a c L,e=.returned (.slice a L.length c)∧Hid (Made w' W.heap.size (.slice a L.length c) L∧L.map Je.ep=S.es.map Je.ep∧Below W.heap.size W w'∧ClS w' n0 m0 B P S):=by
 refine (clEntries_any h.at_ (by have:=h.ev.ok.len;omega) (fun x hx=>by have:=(h.ev.ok.lns x hx).1;omega)).mono ?_
 rintro e w' ⟨a,c,L,rfl,hh⟩
 exact ⟨a,c,L,rfl,hh.out.1,hh.out.2.1,hh.out.2.2,h.below hh.out.2.2⟩
theorem ClEv.plans {S:Cs} {l:List Pn} (h:ClEv S) (h0:pnsBad S.c l=0):ClEv { S with pn:=l }:=by
 have o:=h.ok
 exact ⟨⟨o.c,o.T,o.g,o.b,o.ga,o.ke,h0,o.po,o.pr,o.len,o.lns,o.per,o.sg,o.st⟩,h.ev⟩
theorem ClEv.pools {S:Cs} {l:List Po} (h:ClEv S) (h0:psBad S.c l=0):ClEv { S with po:=l }:=by
 have o:=h.ok
 exact ⟨⟨o.c,o.T,o.g,o.b,o.ga,o.ke,o.pn,h0,o.pr,o.len,o.lns,o.per,o.sg,o.st⟩,h.ev⟩
theorem ClEv.pairs {S:Cs} {l:List Pr} (h:ClEv S) (h0:prsBad S.c l=0):ClEv { S with pr:=l }:=by
 have o:=h.ok
 exact ⟨⟨o.c,o.T,o.g,o.b,o.ga,o.ke,o.pn,o.po,h0,o.len,o.lns,o.per,o.sg,o.st⟩,h.ev⟩
def StEnd3 (W:World) (n0 B:Nat) (S:Cs) (e:Ending) (w':World):Prop:=
 ∃ E,e=.returned E∧E.oneCell'=true∧∃ m1 P' S',Hid (ClS w' n0 m1 B P' S'∧Below n0 W w'∧Fresh P' S'∧S'.c=S.c∧S'.T=S.T∧S'.base=S.base∧S'.gain=S.gain∧S'.kept=S.kept∧S'.st=S.st)
theorem clPlans_ev (h:ClS W n0 m0 B P S) (hf:Fresh P S) (al:Option Addr) (l:List Pn) (cl:Nat) (hl:IsPn W al l cl) (hll:l.length≤9223372036854775807) :
  Calls Tryz.prog 8 #[.pointer (some ⟨B,0,none⟩),.slice al l.length cl] W (StEnd3 W n0 B S):=by
 have hn:n0≤W.heap.size:=by have:=h.at_.hB;have:=h.at_.m0;omega
 refine (clPlans_any h.at_ hf al l cl hl hll).mono ?_
 rintro e w' (⟨h0,rfl,hb⟩ | ⟨h0,rfl,m1,pa,pc,hh⟩)
 ·exact ⟨_,rfl,by rw [chE_ne h0];rfl,m0,P,S,h.below hb,hb.mono hn,hf,rfl,rfl,rfl,rfl,rfl,rfl⟩
 ·have hlow:Below n0 W w':=hh.out.2.1.below hn fun b hb=>by rw [hb];exact h.at_.hB.1
  exact ⟨_,rfl,rfl,m1,_,_,h.keep hlow hh.out.1 (h.ev.plans h0),hlow,hh.out.2.2,rfl,rfl,rfl,rfl,rfl,rfl⟩
theorem clPools_ev (h:ClS W n0 m0 B P S) (hf:Fresh P S) (al:Option Addr) (l:List Po) (cl:Nat) (hl:∀ U,Below n0 W U→IsPs U al l cl) (hll:l.length≤9223372036854775807) :
  Calls Tryz.prog 9 #[.pointer (some ⟨B,0,none⟩),.slice al l.length cl] W (StEnd3 W n0 B S):=by
 have hn:n0≤W.heap.size:=by have:=h.at_.hB;have:=h.at_.m0;omega
 have hx:∀ b,b=B→n0≤b:=fun b hb=>by rw [hb];exact h.at_.hB.1
 refine (clPools_any h.at_ hf al l cl (fun U hU=>hl U (hU.below hn hx)) hll).mono ?_
 rintro e w' (⟨h0,rfl,hb⟩ | ⟨h0,rfl,m1,pa,pc,Q,hQ,hh⟩)
 ·exact ⟨_,rfl,by rw [chE_ne h0];rfl,m0,P,S,h.below hb,hb.mono hn,hf,rfl,rfl,rfl,rfl,rfl,rfl⟩
 ·have hlow:Below n0 W w':=hh.out.2.1.below hn hx
  exact ⟨_,rfl,rfl,m1,_,_,h.keep hlow hh.out.1 (h.ev.pools (by rw [psBad_same hQ];exact h0)),hlow,hh.out.2.2,rfl,rfl,rfl,rfl,rfl,rfl⟩
end
end Go.Proofs.YtijjhfkhkhigjaaGreatDoor
namespace Go.Proofs.YtijjhfkhkhigjaaGreatDoor
open Go.RowKit
theorem line_struct:Tryz.prog.underlying 116=some (.struct (Tryz.prog.fieldsOf 116)):=by kernel_rfl
theorem line_stood:Tryz.prog.stoodInHeld 116=false:=by kernel_rfl
theorem line_same (x0 x1:ByteArray) (x2:Int) (W:World):(binOp .neq 116 (.agg #[.string x0,.string x1,.int .i64 x2]) (.agg #[.string x0,.string x1,.int .i64 x2])).run Tryz.prog W=.ok (.bool false) W:=by
 rw [run_neq_struct,show (10000:Nat)=9998+1+1 from rfl,run_equalIn_agg W (9998+1) 116 _ _ line_struct line_stood]
 unfold Program.fieldsOf
 rw [Tryz.underlying116]
 simp [Op.eqFields,part,go_sem,run_equalIn_string W 9998 9 _ _ Tryz.underlying9,run_equalIn_int W 9998 3 .i64 .i64 _ _ Tryz.underlying3,Tryz.isAgg9,Tryz.isAgg3]
set_option maxHeartbeats 1000000 in
theorem sameLines_any (a1 a2:Option Addr) (c1 c2:Nat) (l:List Ln) (w:World) (hlen:l.length≤1000) (h1:IsLn w a1 l c1) (h2:IsLn w a2 l c2) :
  Calls Tryz.prog 67 #[.slice a1 l.length c1,.slice a2 l.length c2] w fun e w'=>e=.returned (.bool true)∧Below w.heap.size w w':=by
 have Hlen:(l.length:Int)≤1000:=by omega
 have H1:Hid (l=[]∨_):=h1.lies
 have H2:Hid (l=[]∨_):=h2.lies
 clear h1 h2
 have hS:=line_same
 go_enter Tryz.func67,Tryz.ntmps67
 go_wp2
 go_loopw [5] (fun i wr=>∃ k:Nat,k≤l.length∧i=.int .i64 k∧∃ n,wr=w.drewN n) (fun i _=>l.length - (RowKit.intOf i).toNat)
 case atStart=>exact ⟨0,Nat.zero_le _,rfl,0,rfl⟩
 case round=>
  obtain ⟨k,hk,rfl,nd,rfl⟩:=hrel
  by_cases hlt:k<l.length
  ·rcases H1.out with h | ⟨g1,o1,rfl,_,q1⟩
   ·rw [h] at hlt;simp at hlt
   rcases H2.out with h | ⟨g2,o2,rfl,_,q2⟩
   ·rw [h] at hlt;simp at hlt
   have d1:=q1 k hlt
   have d2:=q2 k hlt
   clear q1 q2 H1 H2
   generalize l.getD k ln0=x at *
   obtain ⟨x0,x1,x2⟩:=x
   obtain ⟨e0,e1,e2⟩:=d1
   obtain ⟨f0,f1,f2⟩:=d2
   simp only at e0 e1 e2 f0 f1 f2
   have i0:(0:Int)≤k:=by omega
   have i1:(k:Int)<l.length:=by omega
   go_wp2_with fail
   go_quiet (fail)
   go_wp2
   go_roundw
   case rel=>exact ⟨k+1,by omega,by go_num,_,rfl⟩
   case measure=>simp [RowKit.intOf];omega
  ·have hk2:k=l.length:=by omega
   subst hk2
   go_wp2
   go_ret
   exact ⟨rfl,en_drewN (Below.refl _ _) _⟩
set_option maxHeartbeats 1000000 in
theorem sameEntry_any (r:ByteArray) (en pe:Int) (a1 a2:Option Addr) (c1 c2:Nat) (l:List Ln) (w:World) (hlen:l.length≤1000) (h1:IsLn w a1 l c1) (h2:IsLn w a2 l c2) :
  Calls Tryz.prog 35 #[.agg #[.string r,.int .i64 en,.int .i64 pe,.slice a1 l.length c1],.agg #[.string r,.int .i64 en,.int .i64 pe,.slice a2 l.length c2]] w fun e w'=>e=.returned (.bool true)∧Below w.heap.size w w':=by
 have b0:Below w.heap.size w ((w.alloc (.cells #[.string r,.int .i64 en,.int .i64 pe,.slice a1 l.length c1] 42)).alloc (.cells #[.string r,.int .i64 en,.int .i64 pe,.slice a2 l.length c2] 42)):=((Below.refl _ w).alloc (Nat.le_refl _) _).alloc (by simp) _
 have x1:=(Box4.new w r en pe (.slice a1 l.length c1)).alloc (.cells #[.string r,.int .i64 en,.int .i64 pe,.slice a2 l.length c2] 42)
 have x2:=Box4.new (w.alloc (.cells #[.string r,.int .i64 en,.int .i64 pe,.slice a1 l.length c1] 42)) r en pe (.slice a2 l.length c2)
 rw [World.size_alloc] at x2
 have hs0:((w.alloc (.cells #[.string r,.int .i64 en,.int .i64 pe,.slice a1 l.length c1] 42)).alloc (.cells #[.string r,.int .i64 en,.int .i64 pe,.slice a2 l.length c2] 42)).heap.size=w.heap.size+2:=by simp
 have hL:=sameLines_any a1 a2 c1 c2 l _ hlen (h1.below b0) (h2.below b0)
 have HL:Hid (Calls _ _ _ _ _):=hL
 clear hL h1 h2
 go_enter Tryz.func35,Tryz.ntmps35
 go_wp2_with fail
 refine HL.out.mono ?_
 rintro e w1 ⟨rfl,hb1⟩
 rw [hs0] at hb1
 have B1:=b0.trans (hb1.mono (by omega))
 have y1:=x1.below hb1 (by omega)
 have y2:=x2.below hb1 (by omega)
 have d0:=y1.c0
 have d1:=y1.c1
 have d2:=y1.c2
 have e0:=y2.c0
 have e1:=y2.c1
 have e2:=y2.c2
 clear HL hb1 x1 x2 y1 y2 b0 hs0
 go_wp2
 go_ret
 exact ⟨rfl,B1⟩
end Go.Proofs.YtijjhfkhkhigjaaGreatDoor
namespace Go.Proofs.YtijjhfkhkhigjaaGreatDoor
open Go.RowKit Go.Lib
theorem ep_at {L1 L2:List Je} (h:L1.map Je.ep=L2.map Je.ep) {k:Nat} (hk:k<L1.length):(L1.getD k je0).ep=(L2.getD k je0).ep:=by
 have hl:L1.length=L2.length:=by have:=congrArg List.length h;simpa using this
 have:=congrArg (fun l=>l[k]?) h
 simp only [List.getElem?_map,List.getElem?_eq_getElem hk,List.getElem?_eq_getElem (by omega:k<L2.length),Option.map_some,Option.some.injEq] at this
 rw [List.getD_eq_getElem?_getD,List.getD_eq_getElem?_getD,List.getElem?_eq_getElem hk,List.getElem?_eq_getElem (by omega:k<L2.length)]
 exact this
set_option maxHeartbeats 4000000 in
theorem sameEntries_any (a1 a2:Option Addr) (c1 c2:Nat) (L1 L2:List Je) (w:World) (hlen:L1.length≤1000) (he:L1.map Je.ep=L2.map Je.ep) (hln:∀ x∈L1,x.lns.length≤1000) (h1:IsJs w a1 L1 c1) (h2:IsJs w a2 L2 c2) :
  Calls Tryz.prog 12 #[.slice a1 L1.length c1,.slice a2 L2.length c2] w fun e w'=>e=.returned (.bool true)∧Below w.heap.size w w':=by
 have hl:L2.length=L1.length:=by have:=congrArg List.length he;simpa using this.symm
 rw [hl]
 have H1:Hid (IsJs w a1 L1 c1):=h1
 have H2:Hid (IsJs w a2 L2 c2):=h2
 have HE:Hid (∀ k,k<L1.length→(L1.getD k je0).ep=(L2.getD k je0).ep∧(L1.getD k je0).lns.length≤1000):=fun k hk=>⟨ep_at he hk,hln _ (jes_mem L1 k hk)⟩
 have HL:Hid (L2.length=L1.length):=hl
 have hl1:(L1.length:Int)≤1000:=by omega
 clear h1 h2 he hl hln
 go_enter Tryz.func12,Tryz.ntmps12
 go_wp2
 go_loopw [5] (fun i wr=>∃ k:Nat,k≤L1.length∧i=.int .i64 k∧Hid (Below w.heap.size w wr)) (fun i _=>L1.length - (RowKit.intOf i).toNat)
 case atStart=>exact ⟨0,Nat.zero_le _,rfl,Below.refl _ _⟩
 case round=>
  obtain ⟨k,hk,rfl,HB⟩:=hrel
  by_cases hlt:k<L1.length
  ·have j1:=H1.out.below HB.out
   have j2:=H2.out.below HB.out
   rcases j1.lies with h0 | ⟨b1,o1,e1,hb1,hat1⟩
   ·rw [h0] at hlt;simp at hlt
   rcases j2.lies with h0 | ⟨b2,o2,e2,hb2,hat2⟩
   ·rw [← HL.out,h0] at hlt;simp at hlt
   subst e1
   subst e2
   have y1:=hat1 k hlt
   have y2:=hat2 k (by rw [HL.out];exact hlt)
   have l1:=j1.lns _ (jes_mem L1 k hlt)
   have l2:=j2.lns _ (jes_mem L2 k (by rw [HL.out];exact hlt))
   obtain ⟨hee,hll⟩:=HE.out k hlt
   clear hat1 hat2 j1 j2
   generalize L1.getD k je0=x at *
   generalize L2.getD k je0=y at *
   obtain ⟨x0,x1,x2,x3,x4,x5⟩:=x
   obtain ⟨y0,y1',y2',y3,y4,y5⟩:=y
   simp only [Je.ep,Ep.mk.injEq] at hee
   obtain ⟨rfl,rfl,rfl,rfl⟩:=hee
   obtain ⟨d0,d1,d2,d3⟩:=y1
   obtain ⟨f0,f1,f2,f3⟩:=y2
   simp only at d0 d1 d2 d3 f0 f1 f2 f3 l1 l2 hll
   have HS:Hid (∀ W,Below wr.heap.size wr W→Calls Tryz.prog 35 #[.agg #[.string x0,.int .i64 x1,.int .i64 x2,.slice x3 x5.length x4],.agg #[.string x0,.int .i64 x1,.int .i64 x2,.slice y3 x5.length y4]] W fun e w'=>e=.returned (.bool true)∧Below w.heap.size w w'):=fun W hW=>by
    refine (sameEntry_any x0 x1 x2 x3 y3 x4 y4 x5 W hll (l1.below hW) (l2.below hW)).mono ?_
    rintro e w' ⟨rfl,hb⟩
    have z:=HB.out.trans (hW.mono HB.out.size)
    exact ⟨rfl,z.trans (hb.mono z.size)⟩
   have i0:(0:Int)≤k:=by omega
   have i1:(k:Int)<L1.length:=by omega
   clear l1 l2
   go_wp2_with fail
   go_region_with (go_at_call 35;refine (HS.out _ (by first | exact Below.refl _ _ | exact (Below.refl _ _).drew | exact en_drewN (Below.refl _ _) _)).mono ?_;rintro e w2 ⟨rfl,hb2⟩)
   all_goals
    have HB2:Hid (Below w.heap.size w w2):=hb2
    clear hb2 HS d0 d1 d2 d3 f0 f1 f2 f3
    go_wp2
    go_roundw
    case rel=>exact ⟨k+1,by omega,by go_num,HB2⟩
    case measure=>simp [RowKit.intOf];omega
  ·have ek:k=L1.length:=by omega
   subst ek
   have i1:¬ (L1.length:Int)<L1.length:=by omega
   go_wp2
   go_ret
   exact ⟨rfl,HB.out⟩
end Go.Proofs.YtijjhfkhkhigjaaGreatDoor
namespace Go.Proofs.YtijjhfkhkhigjaaGreatDoor
open Go.RowKit Go.Lib
theorem dash_size (k:Nat) (h:k≤1000):2≤(dashS k).size∧(dashS k).size≤30:=by
 have h1:=itS_size2 k (by omega)
 have h2:0<(itS (k:Int)).size:=by
  unfold itS
  rw [Lib.itoa_nonneg]
  show 0<(Lib.decDigits k).toArray.size
  rw [List.size_toArray,Lib.decDigits_length]
  unfold Lib.nDigits
  split <;> omega
 have e:(dashS k).size=1+(itS (k:Int)).size:=by
  unfold dashS
  rw [ByteArray.size_append]
  rfl
 omega
theorem dash_head (k:Nat) (W:World):(Instr.index 9 (.string (dashS k)) (.int .i64 0)).run Tryz.prog W=.ok (.int .u8 45) W:=by
 have e:(dashS k).data[0]? = some 45:=by
  unfold dashS
  rw [ByteArray.data_append,Array.getElem?_append_left (by decide)]
  rfl
 obtain ⟨h4,h5⟩:=Array.getElem?_eq_some_iff.1 e
 have hs:0<(dashS k).size:=h4
 have e2:(dashS k)[0]=45:=h5
 go_simp
theorem is_js_take {W:World} {a:Option Addr} {L:List Je} {c:Nat} (h:IsJs W a L c) (k:Nat) (hk:k≤L.length):IsJs W a (L.take k) c:=by
 have hc:=h.cap
 refine ⟨by rw [List.length_take];omega,?_,fun x hx=>h.lns x (List.mem_of_mem_take hx)⟩
 rcases h.lies with e | ⟨b,off,e,hb,hat⟩
 ·exact .inl (by rw [e];simp)
 ·refine .inr ⟨b,off,e,hb,fun j hj=>?_⟩
  rw [List.length_take] at hj
  have:(L.take k).getD j je0=L.getD j je0:=by
   rw [List.getD_eq_getElem?_getD,List.getD_eq_getElem?_getD,List.getElem?_take,if_pos (by omega)]
  rw [this]
  exact hat j (by omega)
def OwnC (w:World) (n0 B:Nat) (wr:World):Prop:=∃ m P S,ClS wr n0 m B P S∧Below w.heap.size w wr
set_option maxHeartbeats 16000000 in
theorem twice_walk_cl (a ra pla poa la aa:Option Addr) (cap rc plc poc lc ac:Nat) (c:List Ac) (rs:List Rt) (pls:List Pn) (pos:List Po) (L:List Je) (av:List Int) (w:World)
  (h:IsSl w a c cap) (hr:IsRt w ra rs rc) (hrok:RtsOk rs) (hpl:IsPn w pla pls plc) (hpll:pls.length≤9223372036854775807) (hpo:IsPs w poa pos poc) (hpol:pos.length≤9223372036854775807) (hL:IsJs w la L lc) (hLl:L.length≤9223372036854775807) (has:IsW w aa av ac) (hasl:av.length≤9223372036854775807) (ht:TabW w) :
  Calls Tryz.prog 3 #[.slice a c.length cap,.slice ra rs.length rc,.slice pla pls.length plc,.slice poa pos.length poc,.slice la L.length lc,.slice aa av.length ac] w fun e w'=>e=.returned (.bool true)∧Below w.heap.size w w':=by
 have HA:Hid (Calls _ _ _ _ _):=accounts3_any w
 have HN1:Hid (∀ U a1 c1,IsSl U a1 jC c1→Calls Tryz.prog 4 #[.slice a1 5 c1,.slice none 0 0,.string ⟨#[69,85,82]⟩,.string ⟨#[52,48]⟩,.string ⟨#[51,48]⟩] U fun e w'=>∃ B P,e=.returned (.tuple #[.pointer (some ⟨B,0,none⟩),.nilIface])∧Hid (ClAt w' U.heap.size w'.heap.size B P (emS jC ⟨#[69,85,82]⟩ ⟨#[52,48]⟩ ⟨#[51,48]⟩ (stN ((7:Nat):Int) 0))∧Below U.heap.size U w')):=fun U a1 c1 hs=>by
  refine (new_any a1 none c1 0 jC [] _ _ _ U hs ⟨Nat.le_refl _,.inl rfl⟩ (fun k hk=>absurd hk (by simp))).mono ?_
  rintro e w' ⟨_,h2⟩
  obtain ⟨B,P,rfl,hh⟩:=h2 em_fact
  exact ⟨B,P,rfl,hh.out.1,hh.out.2.1⟩
 have HTw:Hid (∀ W U n,Below w.heap.size w W→w.heap.size≤n→Below n W U→TabW U):=fun W U n h1 h2 h3=>ht.below (h1.trans (h3.mono h2))
 have HAd1:Hid (∀ U n0 m0 B P,Below w.heap.size w U→w.heap.size≤n0→ClAt U n0 m0 B P (emS jC ⟨#[69,85,82]⟩ ⟨#[52,48]⟩ ⟨#[51,48]⟩ (stN ((7:Nat):Int) 0))→Calls Tryz.prog 6 #[.pointer (some ⟨B,0,none⟩),.int .i64 7] U fun e w'=>e=.returned (.tuple #[.int .i64 0,.nilIface])∧∃ P',Hid (ClAt w' n0 m0 B P' (emS jC ⟨#[69,85,82]⟩ ⟨#[52,48]⟩ ⟨#[51,48]⟩ (stN ((7:Nat):Int) 1))∧Below w.heap.size w w')):=fun U n0 m0 B P hU hn hc=>by
  refine (adv_em (p:=7) (i:=0) hc em_fact (by omega) (by omega) (fun V hV=>HTw.out U V n0 hU hn hV)).mono ?_
  rintro e w' ⟨rfl,P',hh⟩
  exact ⟨rfl,P',hh.out.1,hU.trans (hh.out.2.mono hn)⟩
 have HSt1:Hid (∀ U n0 m0 B P,ClAt U n0 m0 B P (emS jC ⟨#[69,85,82]⟩ ⟨#[52,48]⟩ ⟨#[51,48]⟩ (stN ((7:Nat):Int) 1))→Calls Tryz.prog 7 #[.pointer (some ⟨B,0,none⟩),.int .i64 7] U fun e w'=>e=.returned (.int .i64 1)∧w'=U):=fun U n0 m0 B P hc=>by
  refine (stage_any hc 7).mono ?_
  rintro e w' ⟨rfl,rfl⟩
  exact ⟨rfl,rfl⟩
 have HNw:Hid (∀ U,Below w.heap.size w U→Calls Tryz.prog 4 #[.slice a c.length cap,.slice ra rs.length rc,.string ⟨#[69,85,82]⟩,.string ⟨#[52,48]⟩,.string ⟨#[51,48]⟩] U (NwEnd c rs ⟨#[69,85,82]⟩ ⟨#[52,48]⟩ ⟨#[51,48]⟩ (nwBad c rs ⟨#[69,85,82]⟩ ⟨#[52,48]⟩ ⟨#[51,48]⟩) U)):=fun U hU=>
  new_any a ra cap rc c rs _ _ _ U (h.below hU) (hr.below hU) hrok
 have HIn:Hid (∀ U,Below w.heap.size w U→IsPn U pla pls plc∧IsPs U poa pos poc∧IsJs U la L lc∧IsW U aa av ac):=fun U hU=>⟨hpl.below hU,hpo.below hU,hL.below hU,has.below hU⟩
 clear h hr hrok hpl hpo hL has ht
 go_enter Tryz.func3,Tryz.ntmps3
 go_wp2_with fail
 refine HA.out.mono ?_
 rintro e w1 ⟨rfl,hs1,hb1⟩
 have HN2:Hid (Calls _ _ _ _ _):=HN1.out w1 _ 5 hs1
 have HB1:Hid (Below w.heap.size w w1):=hb1
 clear HA HN1 hs1 hb1
 go_wp2_with fail
 refine HN2.out.mono ?_
 rintro e w2 ⟨B1,P1,rfl,h2⟩
 have HB2:Hid (Below w.heap.size w w2):=HB1.out.trans (h2.out.2.mono HB1.out.size)
 have HA2:Hid (Calls _ _ _ _ _):=HAd1.out w2 w1.heap.size w2.heap.size B1 P1 HB2.out HB1.out.size h2.out.1
 clear HN2 h2 HAd1
 go_wp2_with fail
 refine HA2.out.mono ?_
 rintro e w3 ⟨rfl,P2,h3⟩
 have HS3:Hid (Calls _ _ _ _ _):=HSt1.out w3 _ _ B1 P2 h3.out.1
 have HB3:Hid (Below w.heap.size w w3):=h3.out.2
 clear HA2 h3 HSt1 HB1 HB2
 go_wp2_with fail
 refine HS3.out.mono ?_
 rintro e w' ⟨rfl,hw⟩
 rw [hw];clear hw w' HS3
 have HN3:Hid (Calls _ _ _ _ _):=HNw.out w3 HB3.out
 clear HNw
 by_cases cb:nwBad c rs ⟨#[69,85,82]⟩ ⟨#[52,48]⟩ ⟨#[51,48]⟩≠0
 ·have HN4:Hid (Calls Tryz.prog 4 #[.slice a c.length cap,.slice ra rs.length rc,.string ⟨#[69,85,82]⟩,.string ⟨#[52,48]⟩,.string ⟨#[51,48]⟩] w3 fun e w'=>∃ n,e=.returned (.tuple #[.pointer none,.iface 51 (.int .i64 n)])∧Below w.heap.size w w'):=by
   refine HN3.out.mono ?_
   rintro e w' ⟨k1,_⟩
   obtain ⟨k2,k3⟩:=k1 cb
   rw [chE_ne cb] at k2
   exact ⟨_,k2,HB3.out.trans (k3.mono HB3.out.size)⟩
  clear HN3 cb HTw HIn
  go_wp2_with fail
  refine HN4.out.mono ?_
  rintro e w4 ⟨n,rfl,hb4⟩
  have HB4:Hid (Below w.heap.size w w4):=hb4
  clear HN4 hb4
  go_wp2
  go_ret
  exact ⟨rfl,HB4.out⟩
 have cb':=Decidable.of_not_not cb
 have HN4:Hid (Calls Tryz.prog 4 #[.slice a c.length cap,.slice ra rs.length rc,.string ⟨#[69,85,82]⟩,.string ⟨#[52,48]⟩,.string ⟨#[51,48]⟩] w3 fun e w'=>∃ B P,e=.returned (.tuple #[.pointer (some ⟨B,0,none⟩),.nilIface])∧Hid (ClS w' w3.heap.size w'.heap.size B P (csNew c rs ⟨#[69,85,82]⟩ ⟨#[52,48]⟩ ⟨#[51,48]⟩)∧Below w.heap.size w w'∧Fresh P (csNew c rs ⟨#[69,85,82]⟩ ⟨#[52,48]⟩ ⟨#[51,48]⟩))):=by
  refine HN3.out.mono ?_
  rintro e w' ⟨_,k1⟩
  obtain ⟨B,P,rfl,hh⟩:=k1 cb'
  have hb:=HB3.out.trans (hh.out.2.1.mono HB3.out.size)
  exact ⟨B,P,rfl,⟨hh.out.1,⟨(nwBad_ok cb').1,by simp [csNew]⟩,fun U hU=>HTw.out w' U w3.heap.size hb HB3.out.size hU⟩,hb,rfl,hh.out.2.2.1,hh.out.2.2.2⟩
 have HZ3:Hid (w.heap.size≤w3.heap.size):=HB3.out.size
 clear HN3 cb cb' HB3 HTw
 go_wp2_with fail
 refine HN4.out.mono ?_
 rintro e w4 ⟨B,P,rfl,h4⟩
 have HPl:Hid (Calls _ _ _ _ _):=clPlans_ev h4.out.1 h4.out.2.2 pla pls plc (HIn.out w4 h4.out.2.1).1 hpll
 have HB4:Hid (Below w.heap.size w w4):=h4.out.2.1
 clear HN4 h4
 go_wp2_with fail
 refine HPl.out.mono ?_
 rintro e w5 ⟨E5,rfl,_,m5,P5,S5,h5⟩
 have HB5:Hid (Below w.heap.size w w5):=HB4.out.trans (h5.out.2.1.mono HZ3.out)
 have HPo:Hid (Calls _ _ _ _ _):=clPools_ev h5.out.1 h5.out.2.2.1 poa pos poc (fun U hU=>(HIn.out U (HB5.out.trans (hU.mono HZ3.out))).2.1) hpol
 clear HPl h5 HB4
 go_wp2_with fail
 refine HPo.out.mono ?_
 rintro e w6 ⟨E6,rfl,_,m6,P6,S6,h6⟩
 have HI0:Hid (OwnC w w3.heap.size B w6):=⟨m6,P6,S6,h6.out.1,HB5.out.trans (h6.out.2.1.mono HZ3.out)⟩
 clear HPo h6 HB5
 obtain ⟨n0,hn0⟩:∃ n0,w3.heap.size=n0:=⟨_,rfl⟩
 rw [hn0] at HI0 HZ3
 clear hn0 hpll hpol
 go_upto_block 0 with fail
 go_cut [18] from 65 to 80 (fun _ wx=>Hid (OwnC w n0 B wx))
 case first=>
  go_wp2_with fail
  go_loopw [18] (fun i wr=>∃ k:Nat,k≤L.length∧k≤20∧i=.int .i64 k∧Hid (OwnC w n0 B wr)) (fun i _=>20 - (RowKit.intOf i).toNat)
  case atStart=>exact ⟨0,Nat.zero_le _,Nat.zero_le _,rfl,HI0⟩
  case round=>
   obtain ⟨k,hk,hk20,rfl,HI⟩:=hrel
   clear HI0
   by_cases hlt:k<L.length
   ·by_cases h20:k<20
    ·obtain ⟨m,P7,S7,hc,hb⟩:=HI.out
     have hjs:=(HIn.out wr hb).2.2.1
     rcases hjs.lies with h0 | ⟨b1,o1,rfl,hb1,hat1⟩
     ·rw [h0] at hlt;simp at hlt
     have hx:=hat1 k hlt
     have hln:=hjs.lns _ (jes_mem L k hlt)
     generalize L.getD k je0=x at *
     have HP:Hid (Calls Tryz.prog 10 #[.pointer (some ⟨B,0,none⟩),.agg #[.string x.ref,.int .i64 x.ent,.int .i64 x.per,.slice x.adr x.lns.length x.cap]] wr fun e w'=>∃ n v,e=.returned (.tuple #[.int .i64 n,v])∧Hid (OwnC w n0 B w')):=by
      refine (clPost_ev hc x.ref x.ent x.per x.adr x.cap x.lns hln).mono ?_
      rintro e w' (⟨_,rfl,hh⟩ | ⟨_,rfl,ea,ec,a',c',hh⟩)
      ·exact ⟨_,_,rfl,m,P7,S7,hh.out.1,hb.trans (hh.out.2.mono hb.size)⟩
      ·exact ⟨_,_,rfl,m,_,_,hh.out.1,hb.trans (hh.out.2.mono HZ3.out)⟩
     obtain ⟨x0,x1,x2,x3,x4,x5⟩:=x
     obtain ⟨d0,d1,d2,d3⟩:=hx
     simp only at d0 d1 d2 d3 HP
     have q0:(0:Int)≤k:=by omega
     have q1:(k:Int)<L.length:=by omega
     have q2:(k:Int)<20:=by omega
     clear hat1 hln hjs hc hb HI
     go_wp2_with fail
     refine HP.out.mono ?_
     rintro e w7 ⟨n7,v7,rfl,HO7⟩
     clear HP d0 d1 d2 d3
     go_wp2
     go_roundw
     case rel=>exact ⟨k+1,by omega,by omega,by go_num,HO7⟩
     case measure=>simp [RowKit.intOf];omega
    ·have q1:(k:Int)<L.length:=by omega
     have q2:¬ (k:Int)<20:=by omega
     go_wp2
     go_meet
     case rel=>exact HI
   ·have q1:¬ (k:Int)<L.length:=by omega
    go_wp2
    go_meet
    case rel=>exact HI
 case rest=>
  clear HI0
  go_wp2_with fail
  go_loopw [19] (fun i wr=>∃ k:Nat,k≤av.length∧k≤20∧i=.int .i64 k∧Hid (OwnC w n0 B wr)) (fun i _=>20 - (RowKit.intOf i).toNat)
  case atStart=>exact ⟨0,Nat.zero_le _,Nat.zero_le _,rfl,hcut⟩
  case round=>
   obtain ⟨k,hk,hk20,rfl,HI⟩:=hrel
   clear hcut
   by_cases hlt:k<av.length∧k<20
   ·obtain ⟨hlt,h20⟩:=hlt
    obtain ⟨m,P7,S7,hc,hb⟩:=HI.out
    have hiw:=(HIn.out wr hb).2.2.2
    rcases hiw.lies with h0 | ⟨b1,o1,rfl,hb1,hat1⟩
    ·rw [h0] at hlt;simp at hlt
    have dav:=hat1 k hlt
    obtain ⟨p,hp⟩:∃ p,av.getD k 0=p:=⟨_,rfl⟩
    rw [hp] at dav
    clear hp
    have HAv:Hid (∀ U,Below w.heap.size w U→U.cell? ⟨b1,o1+k,none⟩=some (.int .i64 p)):=fun U hU=>by
     have h1:=(HIn.out w (Below.refl _ _)).2.2.2
     rcases h1.lies with h0 | ⟨b2,o2,e2,hb2,_⟩
     ·rw [h0] at hlt;simp at hlt
     cases e2
     exact (hU.cell (p:=⟨b1,o1+k,none⟩) hb2).trans ((hb.cell (p:=⟨b1,o1+k,none⟩) hb2).symm.trans dav)
    have HE5:Hid (Calls _ _ _ _ _):=clEntries_ev hc
    have HB7:Hid (Below w.heap.size w wr):=hb
    have HX:Hid (∀ b,clT B P7 S7.es.length b→b<wr.heap.size):=clT_lt hc.at_
    have q0:(0:Int)≤k:=by omega
    have q1:(k:Int)<av.length:=by omega
    have q2:(k:Int)<20:=by omega
    clear hat1 hiw hc hb HI
    go_wp2_with fail
    refine HE5.out.mono ?_
    rintro e w5 ⟨a1,c1,L1,rfl,h5⟩
    have b5:Below w.heap.size w w5:=HB7.out.trans (h5.out.2.2.1.mono HB7.out.size)
    have dav5:=HAv.out w5 b5
    have HSt:Hid (Calls _ _ _ _ _):=stage_any h5.out.2.2.2.at_ p
    have HAd:Hid (Calls _ _ _ _ _):=clAdv_any h5.out.2.2.2 p
    have H5:Hid (Made w5 wr.heap.size (.slice a1 L1.length c1) L1∧L1.map Je.ep=S7.es.map Je.ep∧Below w.heap.size w w5∧ClS w5 n0 m B P7 S7):=⟨h5.out.1,h5.out.2.1,b5,h5.out.2.2.2⟩
    have hL1:L1.length=S7.es.length:=by have:=congrArg List.length h5.out.2.1;simpa using this
    have hL200:S7.es.length≤200:=h5.out.2.2.2.ev.ok.len
    clear HE5 h5 b5 dav HB7
    obtain ⟨sg,hsg⟩:∃ sg,sgOf S7.st p=sg:=⟨_,rfl⟩
    have hsgb:=H5.out.2.2.2.ev.ok.sg p
    rw [hsg] at HSt hsgb
    have Hsg:Hid (sgOf S7.st p=sg):=hsg
    clear hsg
    go_wp2_with fail
    refine HSt.out.mono ?_
    rintro e w' ⟨rfl,hw⟩
    rw [hw];clear hw w' HSt
    go_wp2_with fail
    refine HAd.out.mono ?_
    rintro e w6 (⟨z,hz,rfl,_,h6⟩ | ⟨n,es,ea,ec,R,rfl,h6⟩)
    ·have HE7:Hid (Calls _ _ _ _ _):=clEntries_ev h6.out.1
     have H6:Hid (Below w5.heap.size w5 w6):=h6.out.2
     clear HAd dav5 h6
     go_wp2_with fail
     refine HE7.out.mono ?_
     rintro e w7 ⟨a2,c2,L2,rfl,h7⟩
     have b57:Below w5.heap.size w5 w7:=H6.out.trans (h7.out.2.2.1.mono H6.out.size)
     have HSm:Hid (Calls Tryz.prog 12 #[.slice a1 S7.es.length c1,.slice a2 L2.length c2] w7 fun e w'=>e=.returned (.bool true)∧Hid (ClS w' n0 m B P7 S7∧Below w.heap.size w w')):=by
      obtain ⟨av1,cv1,ev1,js1⟩:=H5.out.1.isJs
      cases ev1
      obtain ⟨av2,cv2,ev2,js2⟩:=h7.out.1.isJs
      cases ev2
      have hm:=sameEntries_any a1 a2 c1 c2 L1 L2 w7 (by omega) (H5.out.2.1.trans h7.out.2.1.symm) (fun x hx=>by
       have hx2:x.ep∈S7.es.map Je.ep:=by rw [← H5.out.2.1];exact List.mem_map_of_mem hx
       obtain ⟨y,hy,e⟩:=List.mem_map.1 hx2
       have:=(H5.out.2.2.2.ev.ok.lns y hy).1
       have e2:y.lns=x.lns:=by unfold Je.ep at e;rw [Ep.mk.injEq] at e;exact e.2.2.2
       rw [← e2];omega) (js1.below b57) js2
      rw [hL1] at hm
      refine hm.mono ?_
      rintro e w' ⟨rfl,hb⟩
      have b7:Below w.heap.size w w7:=H5.out.2.2.1.trans (b57.mono H5.out.2.2.1.size)
      exact ⟨rfl,h7.out.2.2.2.below hb,b7.trans (hb.mono b7.size)⟩
     clear HE7 h7 b57 H6 hL1
     go_wp2_with fail
     refine HSm.out.mono ?_
     rintro e w8 ⟨rfl,h8⟩
     have dav8:=HAv.out w8 h8.out.2
     have HS8:Hid (Calls Tryz.prog 7 #[.pointer (some ⟨B,0,none⟩),.int .i64 p] w8 fun e w'=>e=.returned (.int .i64 sg)∧w'=w8):=by
      have:=stage_any h8.out.1.at_ p
      rw [Hsg.out] at this
      exact this
     have HO8:Hid (OwnC w n0 B w8):=⟨m,P7,S7,h8.out.1,h8.out.2⟩
     clear HSm h8
     go_wp2_with fail
     refine HS8.out.mono ?_
     rintro e w' ⟨rfl,hw⟩
     rw [hw];clear hw w' HS8
     go_wp2
     go_roundw
     case rel=>exact ⟨k+1,by omega,by omega,by go_num,HO8⟩
     case measure=>simp [RowKit.intOf];omega
    ·have HE7:Hid (Calls _ _ _ _ _):=clEntries_ev h6.out.1
     have b6:Below w.heap.size w w6:=H5.out.2.2.1.trans (h6.out.2.1.1.mono HZ3.out)
     have H6:Hid (es.length=S7.es.length+n∧(∀ k,S7.es.length≤k→k<es.length→(es.getD k je0).per=p∧(es.getD k je0).ref=dashS k)∧es.length≤200):=⟨h6.out.2.2.2.2.2.1,h6.out.2.2.2.2.2.2.1,h6.out.1.ev.ok.len⟩
     have HM:Hid (∃ M,es.map Je.ep=S7.es.map Je.ep++M):=⟨_,h6.out.2.2.2.2.2.2.2⟩
     clear HAd dav5
     go_wp2_with fail
     refine HE7.out.mono ?_
     rintro e w7 ⟨a2,c2,L2,rfl,h7⟩
     have b67:=h7.out.2.2.1
     have b7:Below w.heap.size w w7:=b6.trans (b67.mono b6.size)
     have hes:=H6.out.1
     have hL2:L2.length=es.length:=by have:=congrArg List.length h7.out.2.1;simpa using this
     have HSm:Hid (∀ U,Below w7.heap.size w7 U→Calls Tryz.prog 12 #[.slice a1 S7.es.length c1,.slice a2 S7.es.length c2] U fun e w'=>e=.returned (.bool true)∧Below w7.heap.size w7 w'):=fun U hU=>by
      have hm1:=H5.out.1.keep h6.out.2.1.2 HX.out
      obtain ⟨av1,cv1,ev1,js1⟩:=hm1.isJs
      cases ev1
      obtain ⟨av2,cv2,ev2,js2⟩:=h7.out.1.isJs
      cases ev2
      have js3:=is_js_take js2 S7.es.length (by omega)
      obtain ⟨M,hM⟩:=HM.out
      have e3:L1.map Je.ep=(L2.take S7.es.length).map Je.ep:=by
       rw [H5.out.2.1,List.map_take,h7.out.2.1,hM,List.take_append_of_le_length (by rw [List.length_map];omega),List.take_of_length_le (by rw [List.length_map];omega)]
      have hlt2:(L2.take S7.es.length).length=S7.es.length:=by rw [List.length_take];omega
      have hm:=sameEntries_any a1 a2 c1 c2 L1 (L2.take S7.es.length) U (by omega) e3 (fun x hx=>by
       have hx2:x.ep∈S7.es.map Je.ep:=by rw [← H5.out.2.1];exact List.mem_map_of_mem hx
       obtain ⟨y,hy,e⟩:=List.mem_map.1 hx2
       have:=(H5.out.2.2.2.ev.ok.lns y hy).1
       have e2:y.lns=x.lns:=by unfold Je.ep at e;rw [Ep.mk.injEq] at e;exact e.2.2.2
       rw [← e2];omega) ((js1.below b67).below hU) (js3.below hU)
      rw [hL1,hlt2] at hm
      refine hm.mono ?_
      rintro e w' ⟨rfl,hb⟩
      exact ⟨rfl,hU.trans (hb.mono hU.size)⟩
     have HJ2:Hid (IsJs w7 a2 L2 c2∧L2.map Je.ep=es.map Je.ep):=by
      obtain ⟨av2,cv2,ev2,js2⟩:=h7.out.1.isJs
      cases ev2
      exact ⟨js2,h7.out.2.1⟩
     have dav7:=HAv.out w7 b7
     have HS7:Hid (Calls Tryz.prog 7 #[.pointer (some ⟨B,0,none⟩),.int .i64 p] w7 fun e w'=>e=.returned (.int .i64 (sg+1))∧w'=w7):=by
      have:=stage_any h7.out.2.2.2.at_ p
      simp only [sgOf_put,if_true,Hsg.out] at this
      exact this
     have HO7:Hid (∀ U,Below w7.heap.size w7 U→OwnC w n0 B U):=fun U hU=>⟨m,_,_,h7.out.2.2.2.below hU,b7.trans (hU.mono b7.size)⟩
     have HB7':Hid (Below w.heap.size w w7):=b7
     have hcap2:S7.es.length≤c2:=by have:=HJ2.out.1.cap;omega
     have hlen2:(L2.length:Int)=S7.es.length+n:=by have:=H6.out.1;omega
     have hl2b:L2.length≤200:=by have:=H6.out.2.2;omega
     have wsg:IntKind.i64.wrap (sg+1)=sg+1:=by
      simp only [IntKind.wrap,IntKind.bits,IntKind.signed]
      simp
      omega
     have wln:IntKind.i64.wrap ((S7.es.length:Int)+n)=(S7.es.length:Int)+n:=by
      simp only [IntKind.wrap,IntKind.bits,IntKind.signed]
      simp
      omega
     obtain ⟨l2,hl2⟩:∃ l2,L2.length=l2:=⟨_,rfl⟩
     have Hl2:Hid (L2.length=l2):=hl2
     rw [hl2] at hlen2 hl2b ⊢
     obtain ⟨s7,hs7⟩:∃ s7,S7.es.length=s7:=⟨_,rfl⟩
     rw [hs7] at hlen2 hcap2 wln HSm ⊢
     have Hs7:Hid (S7.es.length=s7):=hs7
     clear hes HE7 h6 h7 b6 b67 b7 hL1 hL2 hl2 hs7 hL200 H5 HM HX
     go_wp2_with fail
     refine HS7.out.mono ?_
     rintro e w' ⟨rfl,hw⟩
     rw [hw];clear hw w' HS7
     go_wp2_with fail
     refine (HSm.out w7 (Below.refl _ _)).mono ?_
     rintro e w8 ⟨rfl,hb8⟩
     have HB8:Hid (Below w7.heap.size w7 w8):=hb8
     clear HSm hb8
     go_wp2_with fail
     go_loopw [27] (fun i wx=>∃ j:Nat,s7≤j∧j≤l2∧i=.int .i64 j∧Hid (Below w7.heap.size w7 wx)) (fun i _=>l2 - (RowKit.intOf i).toNat)
     case atStart=>exact ⟨s7,Nat.le_refl _,by omega,rfl,HB8⟩
     case round=>
      rename World=>wx
      obtain ⟨j,hj1,hj2,rfl,HBx⟩:=hrel
      clear HB8
      by_cases hjl:j<l2
      ·have jsx:=HJ2.out.1.below HBx.out
       rcases jsx.lies with h0 | ⟨b2,o2,rfl,hb2,hat2⟩
       ·have:=Hl2.out;rw [h0] at this;simp at this;omega
       obtain ⟨x0,x1,x2,x3⟩:=hat2 j (by rw [Hl2.out];exact hjl)
       have hee:=ep_at HJ2.out.2 (k:=j) (by rw [Hl2.out];exact hjl)
       have hls:es.length=l2:=by have:=congrArg List.length HJ2.out.2;rw [List.length_map,List.length_map,Hl2.out] at this;exact this.symm
       obtain ⟨g1,g2⟩:=H6.out.2.1 j (by rw [Hs7.out];exact hj1) (by rw [hls];exact hjl)
       unfold Je.ep at hee
       rw [Ep.mk.injEq] at hee
       rw [hee.1,g2] at x0
       rw [hee.2.2.1,g1] at x2
       have davx:=HAv.out wx (HB7'.out.trans (HBx.out.mono HB7'.out.size))
       obtain ⟨z1,z2⟩:=dash_size j (by omega)
       have y0:(0:Int)≤j:=by omega
       have y1:(j:Int)<l2:=by omega
       clear jsx hat2 x1 x3 hee hls g1 g2
       have nz:¬ ((dashS j).size:Int)<2:=by omega
       have hidx:∀ W,(Instr.index 9 (.string (dashS j)) (.int .i64 0)).run Tryz.prog W=.ok (.int .u8 45) W:=dash_head j
       generalize dashS j=rf at *
       go_upto_region 35 with fail
       refine wp_region_drawn (by kernel_rfl) ?_
       have X0:wx.drew.cell? ⟨b2,o2+j*4,none⟩=some (.string rf):=x0
       have X2:wx.drew.cell? ⟨b2,o2+j*4+2,none⟩=some (.int .i64 p):=x2
       have XA:wx.drew.cell? ⟨b1,o1+k,none⟩=some (.int .i64 p):=davx
       have HBx2:Hid (Below w7.heap.size w7 wx.drew):=HBx.out.drew
       generalize wx.drew=V at *
       refine wpAny_take (i:=0) (v:=.slice (some ⟨b2,o2,none⟩) l2 c2) rfl (by kernel_rfl) (by kernel_rfl) (by kernel_rfl) (fun _ _ _ h=>h) (Or.inl ⟨by rfl,fun w=>by go_simp⟩) ?_
       simp only [Act.put,zq0,zq1,zq2,zq3,zq4,zq5]
       refine wpAny_take (i:=1) (v:=.int .i64 (j:Int)) rfl (by kernel_rfl) (by kernel_rfl) (by kernel_rfl) (fun _ _ _ h=>h) (Or.inl ⟨by rfl,fun w=>by go_simp⟩) ?_
       simp only [Act.put,zq0,zq1,zq2,zq3,zq4,zq5]
       refine wpAny_take (i:=2) (v:=.pointer (some ⟨b2,o2+j*4,none⟩)) rfl (by kernel_rfl) (by kernel_rfl) (by kernel_rfl) (fun _ _ _ h=>h) (Or.inl ⟨by rfl,fun w=>by go_simp⟩) ?_
       simp only [Act.put,zq0,zq1,zq2,zq3,zq4,zq5]
       refine wpAny_take (i:=3) (v:=.pointer (some ⟨b2,o2+j*4+2,none⟩)) rfl (by kernel_rfl) (by kernel_rfl) (by kernel_rfl) (fun _ _ _ h=>h) (Or.inl ⟨by rfl,fun w=>by go_simp⟩) ?_
       simp only [Act.put,zq0,zq1,zq2,zq3,zq4,zq5]
       refine wpAny_take (i:=5) (v:=.slice (some ⟨b1,o1,none⟩) av.length ac) rfl (by kernel_rfl) (by kernel_rfl) (by kernel_rfl) (fun _ _ _ h=>h) (Or.inl ⟨by rfl,fun w=>by go_simp⟩) ?_
       simp only [Act.put,zq0,zq1,zq2,zq3,zq4,zq5]
       refine wpAny_take (i:=6) (v:=.int .i64 (k:Int)) rfl (by kernel_rfl) (by kernel_rfl) (by kernel_rfl) (fun _ _ _ h=>h) (Or.inl ⟨by rfl,fun w=>by go_simp⟩) ?_
       simp only [Act.put,zq0,zq1,zq2,zq3,zq4,zq5]
       refine wpAny_take (i:=7) (v:=.pointer (some ⟨b1,o1+k,none⟩)) rfl (by kernel_rfl) (by kernel_rfl) (by kernel_rfl) (fun _ _ _ h=>h) (Or.inl ⟨by rfl,fun w=>by go_simp⟩) ?_
       simp only [Act.put,zq0,zq1,zq2,zq3,zq4,zq5]
       refine any_of_L (g:=27) (T:=fun u=>u=V) _ _ _ _ ?_
       refine L_takeC [9,10,18,19,27] (i:=4) (v:=.int .i64 p) rfl (by kernel_rfl) (by kernel_rfl) (by decide) (by kernel_rfl) (by kernel_rfl) (by kernel_rfl) (by kernel_rfl) (fun _ _ _ h=>h) (Or.inl ⟨by rfl,fun w' hw'=>by rw [hw'];clear hw';go_simp⟩) rfl ?_
       simp only [Act.put,zq0,zq1,zq2,zq3,zq4,zq5]
       refine L_takeC [9,10,18,19,27] (i:=8) (v:=.int .i64 p) rfl (by kernel_rfl) (by kernel_rfl) (by decide) (by kernel_rfl) (by kernel_rfl) (by kernel_rfl) (by kernel_rfl) (fun _ _ _ h=>h) (Or.inl ⟨by rfl,fun w' hw'=>by rw [hw'];clear hw';go_simp⟩) rfl ?_
       simp only [Act.put,zq0,zq1,zq2,zq3,zq4,zq5]
       refine L_takeC [10,18,19,27] (i:=9) (v:=.bool false) rfl (by kernel_rfl) (by kernel_rfl) (by decide) (by kernel_rfl) (by kernel_rfl) (by kernel_rfl) (by kernel_rfl) (fun _ _ _ h=>h) (Or.inl ⟨by rfl,fun w' hw'=>by rw [hw'];clear hw';go_simp⟩) rfl ?_
       simp only [Act.put,zq0,zq1,zq2,zq3,zq4,zq5]
       refine L_takeC [18,19,27] (i:=10) (v:=.bool false) rfl (by kernel_rfl) (by kernel_rfl) (by decide) (by kernel_rfl) (by kernel_rfl) (by kernel_rfl) (by kernel_rfl) (fun _ _ _ h=>h) (Or.inl ⟨by rfl,fun w' hw'=>by rw [hw'];clear hw';go_simp⟩) rfl ?_
       simp only [Act.put,zq0,zq1,zq2,zq3,zq4,zq5]
       refine L_takeC [13,14,15,16,17,18,19,27] (i:=11) (v:=.slice (some ⟨b2,o2,none⟩) l2 c2) rfl (by kernel_rfl) (by kernel_rfl) (by decide) (by kernel_rfl) (by kernel_rfl) (by kernel_rfl) (by kernel_rfl) (fun _ _ _ h=>h) (Or.inl ⟨by rfl,fun w' hw'=>by rw [hw'];clear hw';go_simp⟩) rfl ?_
       simp only [Act.put,zq0,zq1,zq2,zq3,zq4,zq5]
       refine L_takeC [13,14,15,16,17,18,19,27] (i:=12) (v:=.int .i64 (j:Int)) rfl (by kernel_rfl) (by kernel_rfl) (by decide) (by kernel_rfl) (by kernel_rfl) (by kernel_rfl) (by kernel_rfl) (fun _ _ _ h=>h) (Or.inl ⟨by rfl,fun w' hw'=>by rw [hw'];clear hw';go_simp⟩) rfl ?_
       simp only [Act.put,zq0,zq1,zq2,zq3,zq4,zq5]
       refine L_takeC [14,15,16,17,18,19,27] (i:=13) (v:=.pointer (some ⟨b2,o2+j*4,none⟩)) rfl (by kernel_rfl) (by kernel_rfl) (by decide) (by kernel_rfl) (by kernel_rfl) (by kernel_rfl) (by kernel_rfl) (fun _ _ _ h=>h) (Or.inl ⟨by rfl,fun w' hw'=>by rw [hw'];clear hw';go_simp⟩) rfl ?_
       simp only [Act.put,zq0,zq1,zq2,zq3,zq4,zq5]
       refine L_takeC [15,16,17,18,19,27] (i:=14) (v:=.pointer (some ⟨b2,o2+j*4,none⟩)) rfl (by kernel_rfl) (by kernel_rfl) (by decide) (by kernel_rfl) (by kernel_rfl) (by kernel_rfl) (by kernel_rfl) (fun _ _ _ h=>h) (Or.inl ⟨by rfl,fun w' hw'=>by rw [hw'];clear hw';go_simp⟩) rfl ?_
       simp only [Act.put,zq0,zq1,zq2,zq3,zq4,zq5]
       refine L_takeC [16,17,18,19,27] (i:=15) (v:=.string rf) rfl (by kernel_rfl) (by kernel_rfl) (by decide) (by kernel_rfl) (by kernel_rfl) (by kernel_rfl) (by kernel_rfl) (fun _ _ _ h=>h) (Or.inl ⟨by rfl,fun w' hw'=>by rw [hw'];clear hw';go_simp⟩) rfl ?_
       simp only [Act.put,zq0,zq1,zq2,zq3,zq4,zq5]
       refine L_takeC [17,18,19,27] (i:=16) (v:=.int .i64 (rf.size:Int)) rfl (by kernel_rfl) (by kernel_rfl) (by decide) (by kernel_rfl) (by kernel_rfl) (by kernel_rfl) (by kernel_rfl) (fun _ _ _ h=>h) (Or.inl ⟨by rfl,fun w' hw'=>by rw [hw'];clear hw';go_simp⟩) rfl ?_
       simp only [Act.put,zq0,zq1,zq2,zq3,zq4,zq5]
       refine L_takeC [18,19,27] (i:=17) (v:=.bool false) rfl (by kernel_rfl) (by kernel_rfl) (by decide) (by kernel_rfl) (by kernel_rfl) (by kernel_rfl) (by kernel_rfl) (fun _ _ _ h=>h) (Or.inl ⟨by rfl,fun w' hw'=>by rw [hw'];clear hw';go_simp⟩) rfl ?_
       simp only [Act.put,zq0,zq1,zq2,zq3,zq4,zq5]
       refine L_takeC [19,27] (i:=18) (v:=.bool false) rfl (by kernel_rfl) (by kernel_rfl) (by decide) (by kernel_rfl) (by kernel_rfl) (by kernel_rfl) (by kernel_rfl) (fun _ _ _ h=>h) (Or.inl ⟨by rfl,fun w' hw'=>by rw [hw'];clear hw';go_simp⟩) rfl ?_
       simp only [Act.put,zq0,zq1,zq2,zq3,zq4,zq5]
       refine L_takeC [27] (i:=19) (v:=.bool false) rfl (by kernel_rfl) (by kernel_rfl) (by decide) (by kernel_rfl) (by kernel_rfl) (by kernel_rfl) (by kernel_rfl) (fun _ _ _ h=>h) (Or.inl ⟨by rfl,fun w' hw'=>by rw [hw'];clear hw';go_simp⟩) rfl ?_
       simp only [Act.put,zq0,zq1,zq2,zq3,zq4,zq5]
       refine L_takeC [22,23,24,25,26,27] (i:=20) (v:=.slice (some ⟨b2,o2,none⟩) l2 c2) rfl (by kernel_rfl) (by kernel_rfl) (by decide) (by kernel_rfl) (by kernel_rfl) (by kernel_rfl) (by kernel_rfl) (fun _ _ _ h=>h) (Or.inl ⟨by rfl,fun w' hw'=>by rw [hw'];clear hw';go_simp⟩) rfl ?_
       simp only [Act.put,zq0,zq1,zq2,zq3,zq4,zq5]
       refine L_takeC [22,23,24,25,26,27] (i:=21) (v:=.int .i64 (j:Int)) rfl (by kernel_rfl) (by kernel_rfl) (by decide) (by kernel_rfl) (by kernel_rfl) (by kernel_rfl) (by kernel_rfl) (fun _ _ _ h=>h) (Or.inl ⟨by rfl,fun w' hw'=>by rw [hw'];clear hw';go_simp⟩) rfl ?_
       simp only [Act.put,zq0,zq1,zq2,zq3,zq4,zq5]
       refine L_takeC [23,24,25,26,27] (i:=22) (v:=.pointer (some ⟨b2,o2+j*4,none⟩)) rfl (by kernel_rfl) (by kernel_rfl) (by decide) (by kernel_rfl) (by kernel_rfl) (by kernel_rfl) (by kernel_rfl) (fun _ _ _ h=>h) (Or.inl ⟨by rfl,fun w' hw'=>by rw [hw'];clear hw';go_simp⟩) rfl ?_
       simp only [Act.put,zq0,zq1,zq2,zq3,zq4,zq5]
       refine L_takeC [24,25,26,27] (i:=23) (v:=.pointer (some ⟨b2,o2+j*4,none⟩)) rfl (by kernel_rfl) (by kernel_rfl) (by decide) (by kernel_rfl) (by kernel_rfl) (by kernel_rfl) (by kernel_rfl) (fun _ _ _ h=>h) (Or.inl ⟨by rfl,fun w' hw'=>by rw [hw'];clear hw';go_simp⟩) rfl ?_
       simp only [Act.put,zq0,zq1,zq2,zq3,zq4,zq5]
       refine L_takeC [25,26,27] (i:=24) (v:=.string rf) rfl (by kernel_rfl) (by kernel_rfl) (by decide) (by kernel_rfl) (by kernel_rfl) (by kernel_rfl) (by kernel_rfl) (fun _ _ _ h=>h) (Or.inl ⟨by rfl,fun w' hw'=>by rw [hw'];clear hw';go_simp⟩) rfl ?_
       simp only [Act.put,zq0,zq1,zq2,zq3,zq4,zq5]
       refine L_takeC [26,27] (i:=25) (v:=.int .u8 45) rfl (by kernel_rfl) (by kernel_rfl) (by decide) (by kernel_rfl) (by kernel_rfl) (by kernel_rfl) (by kernel_rfl) (fun _ _ _ h=>h) (Or.inl ⟨by rfl,fun w' hw'=>by rw [hw'];clear hw';go_simp⟩) rfl ?_
       simp only [Act.put,zq0,zq1,zq2,zq3,zq4,zq5]
       refine L_takeC [27] (i:=26) (v:=.bool false) rfl (by kernel_rfl) (by kernel_rfl) (by decide) (by kernel_rfl) (by kernel_rfl) (by kernel_rfl) (by kernel_rfl) (fun _ _ _ h=>h) (Or.inl ⟨by rfl,fun w' hw'=>by rw [hw'];clear hw';go_simp⟩) rfl ?_
       simp only [Act.put,zq0,zq1,zq2,zq3,zq4,zq5]
       refine L_go (by kernel_rfl) (by kernel_rfl) ?_
       refine wpOp_step rfl ?_
       intro K hK
       rw [if_pos (by rfl)]
       have hK':Shut (∀ a w,_→K a w):=hK
       clear hK
       go_wp2_with fail
       refine hK'.out _ _ ?_
       clear hK' K
       try simp only [Act.put,zq0,zq1,zq2,zq3,zq4,zq5]
       refine wpAny_done (by kernel_rfl) ?_ _
       clear X0 X2 XA x0 x2 davx hidx nz z1 z2
       go_wp2
       go_roundw
       case rel=>exact ⟨j+1,by omega,by omega,by go_num,HBx2⟩
       case measure=>simp [RowKit.intOf];omega
      ·have HOx:Hid (OwnC w n0 B wx):=HO7.out wx HBx.out
       have y1:¬ (j:Int)<l2:=by omega
       clear HO7 HJ2 H6
       go_wp2
       go_roundw
       case rel=>exact ⟨k+1,by omega,by omega,by go_num,HOx⟩
       case measure=>simp [RowKit.intOf];omega
   ·have hkc:(¬ (k:Int)<av.length)∨((k:Int)<av.length∧¬ (k:Int)<20):=by omega
    have HB:Hid (Below w.heap.size w wr):=by
     obtain ⟨_,_,_,_,hb⟩:=HI.out
     exact hb
    clear HI
    rcases hkc with k1 | ⟨k1,k2⟩
    all_goals
     go_wp2
     go_ret
     exact ⟨rfl,HB.out⟩
end Go.Proofs.YtijjhfkhkhigjaaGreatDoor
namespace Go.Proofs.YtijjhfkhkhigjaaGreatDoor
open Go.RowKit Go.Lib Go.Deep
section
variable {H:Type} {enc:TypeId×Value→H} {w:World} {base:Nat} {spare:Nat→Bool} {held:Bool}
theorem ch_string {m:Nat} {c:Value} {y:DataW H×List MemPlace} (h:DataW.trod enc Tryz.prog w base spare held m 9 [c]=some y):∃ s,c=.string s∧s.size≤maxLen:=by
 cases m with
 | zero=>simp [DataW.trod] at h
 | succ m=>
  rw [DataW.trod_step] at h
  unfold DataW.trodStep at h
  rw [Tryz.underlying9] at h
  cases c <;> simp at h
  exact ⟨_,rfl,h.1⟩
theorem ch_int {m:Nat} {c:Value} {y:DataW H×List MemPlace} (h:DataW.trod enc Tryz.prog w base spare held m 3 [c]=some y):∃ n,c=.int .i64 n∧(Lit.int .i64 n).wf=true:=by
 cases m with
 | zero=>simp [DataW.trod] at h
 | succ m=>
  rw [DataW.trod_step] at h
  unfold DataW.trodStep at h
  rw [Tryz.underlying3] at h
  cases c <;> simp at h
  rename_i k n
  obtain ⟨⟨rfl,h2⟩,_⟩:=h
  exact ⟨n,rfl,h2⟩
theorem ch_bool {m:Nat} {c:Value} {y:DataW H×List MemPlace} (h:DataW.trod enc Tryz.prog w base spare held m 4 [c]=some y):∃ n,c=.bool n:=by
 cases m with
 | zero=>simp [DataW.trod] at h
 | succ m=>
  rw [DataW.trod_step] at h
  unfold DataW.trodStep at h
  rw [Tryz.underlying4] at h
  cases c <;> simp at h
  exact ⟨_,rfl⟩
def AcOk (a:Ac):Prop:=a.code.size≤maxLen∧a.name.size≤maxLen∧(Lit.int .i64 a.kind).wf=true∧a.par.size≤maxLen
theorem acct_cells:Tryz.prog.cellsOf 57=5:=by kernel_rfl
theorem acct_str:Tryz.prog.cellsOf 9=1:=by kernel_rfl
theorem acct_int:Tryz.prog.cellsOf 3=1:=by kernel_rfl
theorem acct_bool:Tryz.prog.cellsOf 4=1:=by kernel_rfl
theorem open_acct {m:Nat} {cs:List Value} {x:DataW H×List MemPlace} (h:DataW.trod enc Tryz.prog w base spare held m 57 cs=some x):∃ a:Ac,cs=a.cells.toList∧AcOk a:=by
 cases m with
 | zero=>simp [DataW.trod] at h
 | succ m=>
  rw [DataW.trod_step] at h
  unfold DataW.trodStep at h
  rw [Tryz.underlying57] at h
  simp only [acct_cells] at h
  split at h
  ·rename_i hl
   match cs,hl with
   | [c0,c1,c2,c3,c4],_=>
    simp [acct_str,acct_int,acct_bool] at h
    cases h0:DataW.trod enc Tryz.prog w base spare held m 9 [c0]
    ·simp [h0] at h
    cases h1:DataW.trod enc Tryz.prog w base spare held m 9 [c1]
    ·simp [h0,h1] at h
    cases h2:DataW.trod enc Tryz.prog w base spare held m 3 [c2]
    ·simp [h0,h1,h2] at h
    cases h3:DataW.trod enc Tryz.prog w base spare held m 9 [c3]
    ·simp [h0,h1,h2,h3] at h
    cases h4:DataW.trod enc Tryz.prog w base spare held m 4 [c4]
    ·simp [h0,h1,h2,h3,h4] at h
    obtain ⟨f,rfl,hf⟩:=ch_string h0
    obtain ⟨t,rfl,ht⟩:=ch_string h1
    obtain ⟨p,rfl,hp⟩:=ch_int h2
    obtain ⟨n,rfl,hn⟩:=ch_string h3
    obtain ⟨d,rfl⟩:=ch_bool h4
    exact ⟨⟨f,t,p,n,d⟩,rfl,hf,ht,hp,hn⟩
  ·cases h
theorem ac_cells (w:World) (b off:Nat) (a:Ac) (h:∀ i,i<5→w.cell? ⟨b,off+i,none⟩=a.cells.toList[i]?):AcAt w b off a:=
 ⟨h 0 (by omega),h 1 (by omega),h 2 (by omega),h 3 (by omega),h 4 (by omega)⟩
theorem ch_add (b off n:Nat):(⟨b,off,none⟩:Addr).add n=⟨b,off+n,none⟩:=by
 unfold Addr.add
 split
 ·rename_i h;subst h;rfl
 ·rfl
theorem acs_of_trod {W:World} {a:Option Addr} {len cap fuel:Nat} {x:DataW H×List MemPlace} (h:DataW.trod enc Tryz.prog W 0 (fun _=>true) true fuel 22 [.slice a len cap]=some x) :
  ∃ l:List Ac,l.length=len∧(∀ k,k<l.length→AcOk (l.getD k ac0))∧IsSl W a l cap:=by
 rcases open_slice Tryz.underlying22 h with ⟨hcs,_⟩ | ⟨x,l,c,m,n,D,Pl,hcs,_,hl,hm,hmm,_,hx⟩
 ·simp at hcs
  obtain ⟨rfl,rfl,rfl⟩:=hcs
  exact ⟨[],rfl,by simp,⟨by simp,.inl rfl⟩⟩
 ·simp at hcs
  obtain ⟨rfl,rfl,rfl⟩:=hcs
  have hmm2:m=cap:=hmm
  rw [acct_cells] at hx
  have hr:∀ i,i<len→∃ r:Ac,(∀ j,j<5→W.cell? ((x.add (i*5)).add j)=r.cells.toList[j]?)∧AcOk r:=fun i hi=>by
   obtain ⟨cs',h1,h2⟩:=hx i (by omega)
   obtain ⟨r,rfl,ok⟩:=open_acct h2
   exact ⟨r,(World.cells?_some h1).2.2,ok⟩
  obtain ⟨f,hf⟩:=@choose_lt Ac ⟨ac0⟩ _ _ hr
  have hget:∀ k,k<len→((List.range len).map f).getD k ac0=f k:=fun k hk=>by simp [List.getD,hk]
  have hlen:((List.range len).map f).length=len:=by simp
  refine ⟨(List.range len).map f,hlen,fun k hk=>?_,⟨by rw [hlen];exact hl,?_⟩⟩
  ·rw [hlen] at hk
   rw [hget k hk]
   exact (hf k hk).2
  ·by_cases h0:len=0
   ·subst h0
    exact .inl rfl
   ·right
    obtain ⟨b,off,spot⟩:=x
    have hc:W.cell? ⟨b,off,spot⟩=some (.string (f 0).code):=(hf 0 (by omega)).1 0 (by omega)
    have hspot:spot=none:=World.cell?_spot hc
    subst hspot
    have hlt:b<W.heap.size:=World.block_lt_of_cell? _ _ hc
    refine ⟨b,off,rfl,hlt,fun k hk=>?_⟩
    rw [hlen] at hk
    rw [hget k hk]
    refine ac_cells W b (off+k*5) (f k) (fun i hi=>?_)
    have:=(hf k hk).1 i hi
    rw [ch_add,ch_add] at this
    exact this
end
end Go.Proofs.YtijjhfkhkhigjaaGreatDoor
