/-
  Part of a proof (see the last text).
-/
import Derived.Test.YtjifbbdkpanagaaGreatDoorZd16
set_option linter.unusedVariables false
set_option linter.unusedSimpArgs false
set_option maxRecDepth 100000
namespace Go.Proofs.YtjifbbdkpanagaaGreatDoor
section
open Go.RowKit Go.Lib Go.Maps Math Go.Proofs.Tryz
theorem Qhh (a:Option Addr) (len cap:Nat) (S:Int×DataW Unit) (w:World) (ht:Calls prog 76 #[.slice a len cap] w (Qc0 w S)) :
  Calls prog 44 #[.slice a len cap] w fun e w'=>e=.returned (Qec S.1)∧Below w.heap.size w w':=by
 have HT:Hid (Calls prog 76 #[.slice a len cap] w (Qc0 w S)):=ht;clear ht;by_cases c0:S.1=0
 ·rw [c0,Qbk];go_enter func44,ntmps44
  go_wp2_with fail;refine HT.out.mono ?_;rintro e w1 ⟨hb,_,h2⟩;obtain ⟨b,rfl,_,_⟩:=h2 c0;clear h2 c0;go_wp2;go_ret;exact ⟨rfl,hb⟩
 ·rw [QaU c0];go_enter func44,ntmps44
  go_wp2_with fail;refine HT.out.mono ?_;rintro e w1 ⟨hb,h1,_⟩;have e1:=h1 c0;rw [QaU c0] at e1;subst e1;clear h1 c0;go_wp2;go_ret;exact ⟨rfl,hb⟩
def Qg6 (S:Int×DataW Unit) (base:ByteArray) (b:List Bl) (en pe:Int):Int:=
 if chk b≠0 then chk b else if S.1≠0 then S.1 else if Qat base=false then 2 else if (Qav en 12 && Qav pe 120)=false then 1 else 0
theorem QeY {S:Int×DataW Unit} {base:ByteArray} {b:List Bl} {en pe:Int}:Qg6 S base b en pe=0↔Fine b∧S.1=0∧Qat base=true∧Qav en 12=true∧Qav pe 120=true:=by
 unfold Qg6;rw [← Qd7];constructor
 ·intro h;split at h
  ·contradiction
  ·rename_i h1;split at h
   ·contradiction
   ·rename_i h2;split at h
    ·omega
    ·rename_i h3;split at h
     ·omega
     ·rename_i h4;refine ⟨Decidable.of_not_not h1,Decidable.of_not_not h2,by simpa using h3,?_⟩
      simpa using h4
 ·rintro ⟨h1,h2,h3,h4,h5⟩;simp [h1,h2,h3,h4,h5]
def askP (S:Int×DataW Unit) (base:ByteArray) (b:List Bl) (pe:Int):Int:=
 if chk b≠0 then chk b else if S.1≠0 then S.1 else if Qat base=false then 2 else if Qav pe 120=false then 1 else 0
theorem askBad_askP (S:Int×DataW Unit) (base:ByteArray) (b:List Bl) (en pe:Int):Qg6 S base b en pe=if askP S base b pe≠0 then askP S base b pe else if Qav en 12=false then 1 else 0:=by
 unfold Qg6 askP;by_cases h1:chk b≠0
 ·simp [h1]
 ·by_cases h2:S.1≠0
  ·simp [h1,h2]
  ·rw [if_neg h1,if_neg h1,if_neg h2,if_neg h2];cases Qat base <;> cases Qav en 12 <;> cases Qav pe 120 <;> simp
set_option maxHeartbeats 2000000 in
theorem asked_any (a a2:Option Addr) (len cap cap2:Nat) (S:Int×DataW Unit) (base:ByteArray) (b:List Bl) (pe:Int) (w:World) (ht:∀ W,Below w.heap.size w W→Calls prog 76 #[.slice a len cap] W (Qc0 W S)) (hb:Qcn w a2 b cap2) (hbl:b.length≤9223372036854775807) :
  Calls prog 173 #[.slice a len cap,.string base,.slice a2 b.length cap2,.int .i64 pe] w fun e w'=>e=.returned (Qec (askP S base b pe))∧Below w.heap.size w w':=by
 have H1:Hid (Calls prog 131 #[.slice a2 b.length cap2] w fun e w'=>e=.returned (Qec (chk b))∧Below w.heap.size w w'):=QeM a2 cap2 b w hbl hb
 have H2:Hid (∀ W,Below w.heap.size w W→Calls prog 44 #[.slice a len cap] W fun e w'=>e=.returned (Qec S.1)∧Below w.heap.size w w'):=fun W hW=>by
  refine (Qhh a len cap S W (ht W hW)).mono ?_;rintro e w' ⟨rfl,h⟩;exact ⟨rfl,hW.trans (h.mono hW.size)⟩
 have H3:Hid (∀ W,Calls prog 45 #[.string base] W fun e w'=>e=.returned (.bool (Qat base))∧Below W.heap.size W w'):=fun W=>Qdg base W
 have H5:Hid (∀ W,Calls prog 53 #[.int .i64 pe] W fun e w'=>e=.returned (.bool (Qav pe 120))∧w'=W):=fun W=>QbL pe W
 clear ht hb;by_cases c1:chk b≠0
 ·have e1:askP S base b pe=chk b:=if_pos c1;rw [e1,QaU c1];rw [QaU c1] at H1;clear e1;generalize chk b=z at *
  go_enter func173,ntmps173
  go_wp2_with fail;refine H1.out.mono ?_;rintro e w1 ⟨rfl,hb1⟩;have HB1:Hid (Below w.heap.size w w1):=hb1;clear hb1;go_wp2;go_ret;exact ⟨rfl,HB1.out⟩
 have c1':=Decidable.of_not_not c1;rw [c1',Qbk] at H1;by_cases c2:S.1≠0
 ·have e1:askP S base b pe=S.1:=by unfold askP;rw [if_neg c1,if_pos c2]
  rw [e1,QaU c2];rw [QaU c2] at H2;clear e1 c1 c1';generalize S.1=z at *
  go_enter func173,ntmps173
  go_wp2_with fail;refine H1.out.mono ?_;rintro e w1 ⟨rfl,hb1⟩;have HB1:Hid (Below w.heap.size w w1):=hb1;clear hb1;go_wp2_with fail;refine (H2.out w1 HB1.out).mono ?_;rintro e w2 ⟨rfl,hb2⟩;have HB2:Hid (Below w.heap.size w w2):=hb2;clear hb2;go_wp2;go_ret;exact ⟨rfl,HB2.out⟩
 have c2':=Decidable.of_not_not c2;rw [c2',Qbk] at H2;have HA:Hid (askP S base b pe=if Qat base=false then 2 else if Qav pe 120=false then 1 else 0):=by unfold askP Hid;rw [if_neg c1,if_neg c2]
 obtain ⟨res,hres⟩:∃ res,Qec (askP S base b pe)=res:=⟨_,rfl⟩;have HR:Hid (Qec (askP S base b pe)=res):=hres;rw [hres];clear hres c1 c1' c2 c2';go_enter func173,ntmps173
 go_wp2_with fail;refine H1.out.mono ?_;rintro e w1 ⟨rfl,hb1⟩;have HB1:Hid (Below w.heap.size w w1):=hb1;clear hb1 H1;go_wp2_with fail;refine (H2.out w1 HB1.out).mono ?_;rintro e w2 ⟨rfl,hb2⟩;have HB2:Hid (Below w.heap.size w w2):=hb2;clear hb2 H2 HB1;cases c3:Qat base
 ·rw [c3] at H3;have er:res=.iface 66 (.int .i64 2):=by rw [← HR.out,HA.out,if_pos c3];rfl
  subst er;clear HR HA c3;go_wp2_with fail;refine (H3.out w2).mono ?_;rintro e w3 ⟨rfl,hb3⟩;have HB3:Hid (Below w.heap.size w w3):=HB2.out.trans (hb3.mono HB2.out.size);clear hb3;go_wp2;go_ret;exact ⟨rfl,HB3.out⟩
 rw [c3] at H3 HA;clear c3;go_wp2_with fail;refine (H3.out w2).mono ?_;rintro e w3 ⟨rfl,hb3⟩;have HB3:Hid (Below w.heap.size w w3):=HB2.out.trans (hb3.mono HB2.out.size);clear hb3 H3 HB2;cases c5:Qav pe 120
 ·rw [c5] at H5;have er:res=.iface 66 (.int .i64 1):=by rw [← HR.out,HA.out,if_neg (by decide),if_pos c5];rfl
  subst er;clear HR HA c5;go_wp2_with (go_at_call 53;refine (H5.out _).mono ?_;rintro e w' ⟨rfl,rfl⟩);go_ret;exact ⟨rfl,HB3.out⟩
 rw [c5] at H5;have er:res=.nilIface:=by rw [← HR.out,HA.out,if_neg (by decide),if_neg (by rw [c5];decide)];rfl
 subst er;clear HR HA c5;go_wp2_with (go_at_call 53;refine (H5.out _).mono ?_;rintro e w' ⟨rfl,rfl⟩);go_ret;exact ⟨rfl,HB3.out⟩
def cvE (R:Int×Int×Int) (m:Int):Int:=if R.2.2=0 then (if QbV (Qdy m) R.2.1 R.1≤9223372036854775807+(if m<0 then 1 else 0) then 0 else 10) else R.2.2
theorem convE_cv (R:Int×Int×Int) (m:Int):convE R m=Qec (cvE R m):=by
 unfold convE cvE ratE
 split
 ·split <;> (split <;> rfl)
 ·rfl
def wV (S:Int×DataW Unit) (base:ByteArray) (en pe:Int) (x:Bl):Int:=if x.ent=en then convV (Qdz S base x.cur base pe) x.amt else 0
def wE (S:Int×DataW Unit) (base:ByteArray) (en pe:Int) (x:Bl):Int:=if x.ent=en then cvE (Qdz S base x.cur base pe) x.amt else 0
def Qbs (S:Int×DataW Unit) (base:ByteArray) (b:List Bl) (en pe:Int):Int:=if Qg6 S base b en pe≠0 then Qg6 S base b en pe else Qad (fun i=>wE S base en pe (b.getD i bl0)) b.length
def QcH (S:Int×DataW Unit) (base:ByteArray) (b:List Bl) (en pe:Int) (w:World) (e:Ending) (w':World):Prop:=
 Below w.heap.size w w'∧(Qbs S base b en pe≠0→e=.returned (.tuple #[.slice none 0 0,Qec (Qbs S base b en pe)])) ∧
  (Qbs S base b en pe=0→∃ g,e=.returned (.tuple #[.slice (some ⟨g,0,none⟩) b.length b.length,.nilIface])∧w.heap.size≤g∧Qee w' g (b.map (wV S base en pe)))
theorem partOf_nonneg {m n d:Int} (hn:0≤n) (hd:1≤d):0≤QbV (Qdy m) n d:=by
 have m0:=Int.mul_nonneg (Qg5 m) hn;have q0:=Int.ediv_nonneg m0 (by omega:(0:Int)≤d)
 have u:=upOf_bd (Qdy m*n / d) (Qdy m*n % d) d;unfold QbV;omega
theorem ratV_fit {m n d:Int} (hn:0≤n) (hd:1≤d):-9223372036854775808≤ratV m n d∧ratV m n d≤9223372036854775807:=by
 have h0:=partOf_nonneg (m:=m) hn hd;unfold ratV ratioV;by_cases hm:m<0
 ·simp only [if_pos hm];split <;> omega
 ·simp only [if_neg hm];split <;> omega
theorem wV_fit {S:Int×DataW Unit} (hg:QbU S.2) (base:ByteArray) (en pe:Int) (x:Bl):-9223372036854775808≤wV S base en pe x∧wV S base en pe x≤9223372036854775807:=by
 unfold wV
 split
 ·unfold convV
  split
  ·rename_i h;have r:=Qh6 (base:=base) (f:=x.cur) (t:=base) (p:=pe) hg h;exact ratV_fit (by omega) (by omega)
  ·omega
 ·omega
theorem wRow_next (f:Bl→Int) (b:List Bl) (k:Nat) (h:k<b.length):((b.take k).map f++List.replicate (b.length - k) 0).set k (f (b.getD k bl0))=(b.take (k+1)).map f++List.replicate (b.length - (k+1)) 0:=by
 have e:b.length - k=(b.length - (k+1))+1:=by omega
 have hl:((b.take k).map f).length=k:=by simp;omega
 rw [e,List.replicate_succ,List.set_append_right _ _ (by omega),hl,Nat.sub_self,List.set_cons_zero]
 rw [List.take_succ_eq_append_getElem h,List.map_append,List.append_assoc];congr 1;simp [List.getD_eq_getElem?_getD,List.getElem?_eq_getElem h]
theorem wRow_same (f:Bl→Int) (b:List Bl) (k:Nat) (h:k<b.length) (h0:f (b.getD k bl0)=0):(b.take k).map f++List.replicate (b.length - k) 0=(b.take (k+1)).map f++List.replicate (b.length - (k+1)) 0:=by
 have e:b.length - k=(b.length - (k+1))+1:=by omega
 rw [← wRow_next f b k h,h0,e,List.replicate_succ];have hl:((b.take k).map f).length=k:=by simp;omega
 rw [List.set_append_right _ _ (by omega),hl,Nat.sub_self,List.set_cons_zero]
end
section
open Go.RowKit Go.Lib Go.Maps Math Go.Proofs.Tryz
theorem rv_int:(prog.info? 3).map (fun i=>(i.zero,i.size,i.bytes))=some (some (.int .i64 0),1,8):=by kernel_rfl
set_option maxHeartbeats 4000000 in
theorem worth_any (a a2:Option Addr) (len cap cap2:Nat) (S:Int×DataW Unit) (base:ByteArray) (b:List Bl) (en pe:Int) (w:World) (ht:∀ W,Below w.heap.size w W→Calls prog 76 #[.slice a len cap] W (Qc0 W S)) (hg:QbU S.2) (hb:Qcn w a2 b cap2) (hbl:b.length≤9223372036854775807) :
  Calls prog 134 #[.slice a len cap,.string base,.slice a2 b.length cap2,.int .i64 en,.int .i64 pe] w (QcH S base b en pe w):=by
 have HC:Hid (Calls prog 173 #[.slice a len cap,.string base,.slice a2 b.length cap2,.int .i64 pe] w fun e w'=>e=.returned (Qec (askP S base b pe))∧Below w.heap.size w w'):=asked_any a a2 len cap cap2 S base b pe w ht hb hbl
 have HIs:Hid (∀ W,Calls prog 119 #[.int .i64 en] W fun e w'=>e=.returned (.bool (Qav en 12))∧w'=W):=fun W=>QcG en W
 have hqa:=askBad_askP S base b en pe;by_cases c1:askP S base b pe≠0
 ·rw [if_pos c1] at hqa;have e1:Qbs S base b en pe=askP S base b pe:=by unfold Qbs;rw [hqa,if_pos c1]
  unfold QcH;rw [e1,QaU c1];rw [QaU c1] at HC;clear e1 ht hb hqa HIs;generalize askP S base b pe=z at *
  go_enter func134,ntmps134
  go_wp2_with fail;refine HC.out.mono ?_;rintro e w1 ⟨rfl,hb1⟩;have HB1:Hid (Below w.heap.size w w1):=hb1;clear hb1;go_wp2;go_ret2;exact ⟨HB1.out,fun _=>rfl,fun h=>absurd h c1⟩
 have c1':=Decidable.of_not_not c1;rw [c1',Qbk] at HC;rw [if_neg c1] at hqa;by_cases c4:Qav en 12=false
 ·rw [if_pos c4] at hqa;have e1:Qbs S base b en pe=1:=by unfold Qbs;rw [hqa];rfl
  have e2:Qec 1=.iface 66 (.int .i64 1):=QaU (by decide)
  unfold QcH;rw [e1,e2];rw [c4] at HIs;clear e1 ht hb hqa c1 c1' e2;go_enter func134,ntmps134
  go_wp2_with fail;refine HC.out.mono ?_;rintro e w1 ⟨rfl,hb1⟩;have HB1:Hid (Below w.heap.size w w1):=hb1;clear hb1;go_wp2_with fail;refine (HIs.out _).mono ?_;rintro e w' ⟨rfl,hw⟩;rw [hw];clear hw w';go_wp2;go_ret2;exact ⟨HB1.out,fun _=>rfl,fun h=>absurd h (by decide)⟩
 have c4':Qav en 12=true:=by simpa using c4
 rw [if_neg c4] at hqa;rw [c4'] at HIs;obtain ⟨f1,f2,f3,f4,f5⟩:=QeY.1 hqa;have l200:=f1.len;have HWB:Hid (Qbs S base b en pe=Qad (fun i=>wE S base en pe (b.getD i bl0)) b.length):=by unfold Hid Qbs;exact if_neg (by rw [hqa];decide)
 have HAm:Hid (∀ x∈b,-1000000000000000000≤x.amt∧x.amt≤1000000000000000000):=f1.amt;have HBl:Hid (Qcn w a2 b cap2):=hb;have HCv:Hid (∀ W (x:Bl),x∈b→x.ent=en→Below w.heap.size w W→Calls prog 174 #[.slice a len cap,.string base,.string x.cur,.string base,.int .i64 pe,.int .i64 x.amt] W fun e w'=>e=.returned (.tuple #[.int .i64 (wV S base en pe x),Qec (wE S base en pe x)])∧Below W.heap.size W w'):=fun W x hx he hW=>by
  have ha:=HAm.out x hx;refine (convert_any a len cap S base x.cur base pe x.amt W (ht W hW) hg (by omega) (by omega)).mono ?_
  rintro e w' ⟨rfl,h⟩;unfold wV wE;rw [if_pos he,if_pos he,convE_cv];exact ⟨rfl,h⟩
 clear c1 c1' f1 f2 f3 f4 f5 ht hb hqa c4 c4';obtain ⟨fw,hfw⟩:∃ fw,fw=wV S base en pe:=⟨_,rfl⟩;obtain ⟨fe,hfe⟩:∃ fe,fe=wE S base en pe:=⟨_,rfl⟩;have HF0:Hid (∀ x:Bl,x.ent≠en→fw x=0∧fe x=0):=fun x hx=>by rw [hfw,hfe];exact ⟨if_neg hx,if_neg hx⟩
 have HEnd:Hid (∀ e w',QcH S base b en pe w e w'↔(Below w.heap.size w w'∧(Qbs S base b en pe≠0→e=.returned (.tuple #[.slice none 0 0,Qec (Qbs S base b en pe)]))∧(Qbs S base b en pe=0→∃ g,e=.returned (.tuple #[.slice (some ⟨g,0,none⟩) b.length b.length,.nilIface])∧w.heap.size≤g∧Qee w' g (b.map fw)))):=fun e w'=>by rw [hfw];exact Iff.rfl
 rw [← hfw,← hfe] at HCv;rw [← hfe] at HWB;clear hfw hfe;have hmk:=fun w=>run_make_row' (P:=prog) 90 3 (.int .i64 0) 8 underlying90 rv_int rfl .i64 .i64 b.length (by omega) (by omega) w
 go_enter func134,ntmps134
 go_wp2_with fail;refine HC.out.mono ?_;rintro e w2 ⟨rfl,hb2⟩;have HB2:Hid (Below w.heap.size w w2):=hb2;clear hb2 HC;go_wp2_with fail;refine (HIs.out _).mono ?_;rintro e w' ⟨rfl,hw⟩;rw [hw];clear hw w' HIs;have HB0:Hid (Below w.heap.size w (w2.alloc (.cells (madeCells #[.int .i64 0] b.length) 3))):=HB2.out.alloc HB2.out.size _;have HR0:Hid (Qee (w2.alloc (.cells (madeCells #[.int .i64 0] b.length) 3)) w2.heap.size ((b.take 0).map fw++List.replicate (b.length - 0) 0)):=by
  have hrow:=nrow_made w2 b.length;unfold Hid;rw [List.take_zero];exact hrow
 have HGw:Hid (w.heap.size≤w2.heap.size):=HB2.out.size;clear HB2;go_wp2_with fail;clear hmk;generalize w2.heap.size=G at *
 go_loopw [35] (fun i wr=>∃ k:Nat,k≤b.length∧i=.int .i64 k∧Hid (Qee wr G ((b.take k).map fw++List.replicate (b.length - k) 0)∧Below w.heap.size w wr∧Qad (fun i=>fe (b.getD i bl0)) k=0)) (fun i _=>b.length - (RowKit.intOf i).toNat)
 case atStart=>exact ⟨0,Nat.zero_le _,rfl,HR0.out,HB0.out,rfl⟩
 case round=>
  obtain ⟨k,hk,rfl,HR⟩:=hrel;clear HR0 HB0;by_cases hlt:k<b.length
  ·obtain ⟨bb,off,rfl,hbb,hcc⟩:=HBl.out.some hlt;have hx:=(hcc k hlt).below HR.out.2.1 hbb;have i0:(0:Int)≤k:=by omega
   have i3:(k:Int)<b.length:=by omega
   have hmem:=QgC b k hlt;have hsn:=wRow_next fw b k hlt;have hsm:=wRow_same fw b k hlt;obtain ⟨x,hxx⟩:∃ x,b.getD k bl0=x:=⟨_,rfl⟩;have hf1:fe x≠0→Qad (fun i=>fe (b.getD i bl0)) b.length=fe x:=fun h=>by
    have:=Qcp (f:=fun i=>fe (b.getD i bl0)) HR.out.2.2 (show fe (b.getD k bl0)≠0 by rw [hxx];exact h) hlt
    rw [this];show fe (b.getD k bl0)=fe x;rw [hxx]
   have hf2:fe x=0→Qad (fun i=>fe (b.getD i bl0)) (k+1)=0:=fun h=>by
    rw [Qbo HR.out.2.2];show fe (b.getD k bl0)=0;rw [hxx];exact h
   rw [hxx] at hx hsn hsm hmem;have HSn:Hid (((b.take k).map fw++List.replicate (b.length - k) 0).set k (fw x)=(b.take (k+1)).map fw++List.replicate (b.length - (k+1)) 0):=hsn;have HSm:Hid (fw x=0→(b.take k).map fw++List.replicate (b.length - k) 0=(b.take (k+1)).map fw++List.replicate (b.length - (k+1)) 0):=hsm;have HF1:Hid (fe x≠0→Qad (fun i=>fe (b.getD i bl0)) b.length=fe x):=hf1
   have HF2:Hid (fe x=0→Qad (fun i=>fe (b.getD i bl0)) (k+1)=0):=hf2
   have hlen:k<((b.take k).map fw++List.replicate (b.length - k) 0).length:=by simp;omega
   clear hxx hcc hsn hsm hf1 hf2;obtain ⟨Z,hZ⟩:∃ Z,wr.alloc (.cells x.cells 63)=Z:=⟨_,rfl⟩;have hbZ:Below wr.heap.size wr Z:=by rw [← hZ];exact (Below.refl _ _).alloc (Nat.le_refl _) _
   have hbt:BlAt Z wr.heap.size 0 x:=by rw [← hZ];exact BlAt.new wr x 63
   have hszZ:wr.heap.size<Z.heap.size:=by rw [← hZ];simp
   have hRZ:=HR.out.1.belowS hbZ HR.out.1.ltS;have hBZ:Below w.heap.size w Z:=HR.out.2.1.trans (hbZ.mono HR.out.2.1.size);have HGZ:Hid (G<Z.heap.size):=hRZ.ltS;have HZ:Hid (wr.alloc (.cells x.cells 63)=Z):=hZ;have HRZ:Hid (Qee Z G ((b.take k).map fw++List.replicate (b.length - k) 0)∧Below w.heap.size w Z):=⟨hRZ,hBZ⟩;clear hZ hbZ hRZ hBZ hszZ;by_cases he:x.ent=en
   ·have HCx:Hid (Calls prog 174 #[.slice a len cap,.string base,.string x.cur,.string base,.int .i64 pe,.int .i64 x.amt] Z fun e w'=>e=.returned (.tuple #[.int .i64 (fw x),Qec (fe x)])∧Below Z.heap.size Z w'):=HCv.out Z x hmem he HRZ.out.2
    by_cases c2:fe x≠0
    ·have HL:Hid (∀ U,Below Z.heap.size Z U→QcH S base b en pe w (.returned (.tuple #[.slice none 0 0,.iface 66 (.int .i64 (fe x))])) U):=fun U hU=>by
      rw [HEnd.out,HWB.out,HF1.out c2,QaU c2];exact ⟨HRZ.out.2.trans (hU.mono HRZ.out.2.size),fun _=>rfl,fun h=>absurd h c2⟩
     rw [QaU c2] at HCx;generalize fe x=z at HCx HL;generalize fw x=z2 at HCx;obtain ⟨x0,x1,x2,x3⟩:=x;obtain ⟨d0,d1,d2,d3⟩:=hx;obtain ⟨f0,f1,f2,f3⟩:=hbt;simp only [Bl.cells,Nat.zero_add] at d0 d1 d2 d3 f0 f1 f2 f3 he HCx HZ;subst he;have hq:(x0 != x0)=false:=by simp
     clear HSn HSm HF1 HF2 HR HEnd HWB HCv HF0 c2;go_upto_region 10 with fail
     rw [HZ.out];clear HZ d0 d1 d2 d3;go_wp2_with fail;refine HCx.out.mono ?_;rintro e w3 ⟨rfl,hb3⟩;have HL3:Hid _:=HL.out w3 hb3;clear HL HCx hb3 f0 f1 f2 f3;go_wp2;go_ret2;exact HL3.out
    ·have c2':=Decidable.of_not_not c2;have HN:Hid (∀ U,Below Z.heap.size Z U→(Qee (U.setCell ⟨G,k,none⟩ (.int .i64 (fw x))) G ((b.take (k+1)).map fw++List.replicate (b.length - (k+1)) 0)∧Below w.heap.size w (U.setCell ⟨G,k,none⟩ (.int .i64 (fw x)))∧Qad (fun i=>fe (b.getD i bl0)) (k+1)=0)∧(∃ z,U.cell? ⟨G,k,none⟩=some (.int .i64 z))∧U.frozen? ⟨G,k,none⟩=false):=fun U hU=>by
      have hRU:=HRZ.out.1.belowS hU HGZ.out;have hs:=hRU.set k (fw x);rw [HSn.out] at hs;exact ⟨⟨hs,(HRZ.out.2.trans (hU.mono HRZ.out.2.size)).setCell (p:=⟨G,k,none⟩) HGw.out _,HF2.out c2'⟩,⟨_,hRU.cell (i:=k) hlen⟩,hRU.frozen k⟩
     rw [c2',Qbk] at HCx;generalize fw x=z2 at HCx HN;obtain ⟨x0,x1,x2,x3⟩:=x;obtain ⟨d0,d1,d2,d3⟩:=hx;obtain ⟨f0,f1,f2,f3⟩:=hbt;simp only [Bl.cells,Nat.zero_add] at d0 d1 d2 d3 f0 f1 f2 f3 he HCx HZ;subst he;have hq:(x0 != x0)=false:=by simp
     clear HSn HSm HF1 HF2 HR HEnd HWB HCv HF0 c2 c2' hlen;go_upto_region 10 with fail
     rw [HZ.out];clear HZ d0 d1 d2 d3;go_wp2_with fail;refine HCx.out.mono ?_;rintro e w3 ⟨rfl,hb3⟩;obtain ⟨hN1,⟨zz,hN2⟩,hN3⟩:=HN.out w3 hb3;have HN1:Hid _:=hN1;clear HN HCx hb3 f0 f1 f2 f3 hN1;go_wp2;go_roundw
     case rel=>exact ⟨k+1,by omega,by go_num,HN1⟩
     case measure=>simp [RowKit.intOf];omega
   ·have HN:Hid (Qee Z G ((b.take (k+1)).map fw++List.replicate (b.length - (k+1)) 0)∧Below w.heap.size w Z∧Qad (fun i=>fe (b.getD i bl0)) (k+1)=0):=by
     obtain ⟨z1,z2⟩:=HF0.out x he;exact ⟨by rw [← HSm.out z1];exact HRZ.out.1,HRZ.out.2,HF2.out z2⟩
    obtain ⟨x0,x1,x2,x3⟩:=x;obtain ⟨d0,d1,d2,d3⟩:=hx;obtain ⟨f0,f1,f2,f3⟩:=hbt;simp only [Bl.cells,Nat.zero_add] at d0 d1 d2 d3 f0 f1 f2 f3 he HZ;have hq:(x0 != en)=true:=by simp [he]
    clear HSn HSm HF1 HF2 HR HEnd HWB HCv HF0 hlen HRZ HGZ;go_upto_region 10 with fail
    rw [HZ.out];clear HZ d0 d1 d2 d3;go_wp2;go_roundw
    case rel=>exact ⟨k+1,by omega,by go_num,HN⟩
    case measure=>simp [RowKit.intOf];omega
  ·obtain rfl:k=b.length:=by omega
   have HL:Hid (QcH S base b en pe w (.returned (.tuple #[.slice (some ⟨G,0,none⟩) b.length b.length,.nilIface])) wr):=by
    have h1:=HR.out;rw [List.take_length,Nat.sub_self,List.replicate_zero,List.append_nil] at h1;refine (HEnd.out _ _).2 ⟨h1.2.1,fun h=>absurd (HWB.out.trans h1.2.2) h,fun _=>⟨G,rfl,HGw.out,h1.1⟩⟩
   have i3:¬ (b.length:Int)<b.length:=by omega
   clear HR HEnd HWB HCv HF0;go_wp2;go_ret2;exact HL.out
end
section
open Go.RowKit Go.Lib Math Go.Proofs.Tryz
def isAcc (c:List Ac) (code:ByteArray):Bool:=decide (0≤QgN (QaG code) c)
theorem rvAcc1_any (x:Ac) (c:ByteArray) (B:Nat) (w:World) (hB:w.cell? ⟨B,0,none⟩=some (.string c)) (hlt:B<w.heap.size) :
  Calls prog 175 #[.agg x.cells,.pointer (some ⟨B,0,none⟩)] w fun e w'=>e=.returned (.bool (QaG c x))∧Below w.heap.size w w':=by
 obtain ⟨a0,a1,a2,a3,a4⟩:=x;have b0:Below w.heap.size w (w.alloc (.cells #[.string a0,.string a1,.int .i64 a2,.string a3,.bool a4] 48)):=(Below.refl _ w).alloc (Nat.le_refl _) _;have hB2:(w.alloc (.cells #[.string a0,.string a1,.int .i64 a2,.string a3,.bool a4] 48)).cell? ⟨B,0,none⟩=some (.string c):=(b0.cell (p:=⟨B,0,none⟩) hlt).trans hB;simp only [Ac.cells];by_cases h:a0=c
 ·subst h;have e1:QaG a0 ⟨a0,a1,a2,a3,a4⟩=true:=by simp [QaG]
  rw [e1];go_enter func175,ntmps175
  go_wp2;go_ret;exact ⟨rfl,b0⟩
 ·have e1:QaG c ⟨a0,a1,a2,a3,a4⟩=false:=by simp [QaG,h]
  have h':=ch_ne h;rw [e1];go_enter func175,ntmps175
  go_wp2;go_ret;exact ⟨by rw [← h'];rfl,b0⟩
theorem rvAcc1_tells (c:ByteArray) (B:Nat) (w:World) (hB:w.cell? ⟨B,0,none⟩=some (.string c)) (hlt:B<w.heap.size):Tells 175 B (QaG c) w:=
 ⟨fun args W=>Qf9 func175 (by kernel_rfl) ⟨_,rfl⟩ args W,fun x W hW=>rvAcc1_any x c B W ((hW.cell (p:=⟨B,0,none⟩) hlt).trans hB) (by have:=hW.size;omega)⟩
theorem rvAcc_any (a:Option Addr) (cap:Nat) (c:List Ac) (code:ByteArray) (w:World) (hlen:c.length≤1000) (h:Qcm w a c cap) :
  Calls prog 137 #[.slice a c.length cap,.string code] w fun e w'=>e=.returned (.bool (isAcc c code))∧Below w.heap.size w w':=by
 have b1:Below w.heap.size w (w.alloc (.cells #[.string code] 9)):=(Below.refl _ w).alloc (Nat.le_refl _) _;have HI:Hid (Calls prog 111 #[.slice a c.length cap,.func (.func 175) #[] #[.pointer (some ⟨w.heap.size,0,none⟩)]] (w.alloc (.cells #[.string code] 9)) fun e w'=>e=.returned (.bool (isAcc c code))∧Below w.heap.size w w'):=by
  refine (QgZ _ w.heap.size (QaG code) a cap c _ (rvAcc1_tells code w.heap.size _ (by simp) (by simp)) hlen (h.below b1)).mono ?_
  rintro e w' ⟨rfl,hb⟩;exact ⟨rfl,b1.trans (hb.mono b1.size)⟩
 clear h b1;generalize isAcc c code=r at *
 go_enter func137,ntmps137
 go_wp2_with fail;refine HI.out.mono ?_;rintro e w' ⟨rfl,hb⟩;have HB:Hid (Below w.heap.size w w'):=hb;clear hb;go_wp2;go_ret;exact ⟨rfl,HB.out⟩
def Qgq (c:List Ac) (en:Int) (x:Bl):Bool:=decide (x.ent=en) && !isAcc c x.acc
set_option maxHeartbeats 2000000 in
theorem rvEnt1_any (x:Bl) (c:List Ac) (a:Option Addr) (cap:Nat) (en:Int) (B1 B2:Nat) (w:World) (h1:B1<w.heap.size) (h2:B2<w.heap.size) (hB1:w.cell? ⟨B1,0,none⟩=some (.int .i64 en)) (hB2:w.cell? ⟨B2,0,none⟩=some (.slice a c.length cap)) (hlen:c.length≤1000) (h:Qcm w a c cap) :
  Calls prog 136 #[.agg x.cells,.pointer (some ⟨B1,0,none⟩),.pointer (some ⟨B2,0,none⟩)] w fun e w'=>e=.returned (.bool (Qgq c en x))∧Below w.heap.size w w':=by
 obtain ⟨x0,x1,x2,x3⟩:=x;have b0:Below w.heap.size w (w.alloc (.cells #[.int .i64 x0,.string x1,.string x2,.int .i64 x3] 63)):=(Below.refl _ w).alloc (Nat.le_refl _) _;have k1:(w.alloc (.cells #[.int .i64 x0,.string x1,.string x2,.int .i64 x3] 63)).cell? ⟨B1,0,none⟩=some (.int .i64 en):=(b0.cell (p:=⟨B1,0,none⟩) h1).trans hB1;have k2:(w.alloc (.cells #[.int .i64 x0,.string x1,.string x2,.int .i64 x3] 63)).cell? ⟨B2,0,none⟩=some (.slice a c.length cap):=(b0.cell (p:=⟨B2,0,none⟩) h2).trans hB2
 have HI:Hid (Calls prog 137 #[.slice a c.length cap,.string x1] (w.alloc (.cells #[.int .i64 x0,.string x1,.string x2,.int .i64 x3] 63)) fun e w'=>e=.returned (.bool (isAcc c x1))∧Below w.heap.size w w'):=by
  refine (rvAcc_any a cap c x1 _ hlen (h.below b0)).mono ?_;rintro e w' ⟨rfl,hb⟩;exact ⟨rfl,b0.trans (hb.mono b0.size)⟩
 simp only [Bl.cells,Qgq];clear hB1 hB2 h;generalize isAcc c x1=r at *
 by_cases c1:x0=en
 ·have c1':(x0 == en)=true:=by simp [c1]
  have e1:(decide (x0=en) && !r)=!r:=by simp [c1]
  rw [e1];subst c1;clear e1 b0;go_enter func136,ntmps136
  go_wp2_with fail;refine HI.out.mono ?_;rintro e w' ⟨rfl,hb⟩;have HB:Hid (Below w.heap.size w w'):=hb;clear hb HI;go_wp2;go_ret;exact ⟨rfl,HB.out⟩
 ·have e1:(decide (x0=en) && !r)=false:=by simp [c1]
  have c1':(x0 == en)=false:=by rw [beq_eq_false_iff_ne];exact c1
  rw [e1];clear e1 HI;go_enter func136,ntmps136
  go_wp2;go_ret;exact ⟨rfl,b0⟩
def brBad (n:Int) (code gain:ByteArray):Int:=if QaJ n=false then 1 else if n≠0∧code=gain then 8 else 0
set_option maxHeartbeats 2000000 in
theorem brBad_any (n:Int) (code gain:ByteArray) (w:World) :
  Calls prog 139 #[.int .i64 n,.string code,.string gain] w fun e w'=>e=.returned (Qec (brBad n code gain))∧w'=w:=by
 have H1:=QcL n w;unfold brBad;cases c1:QaJ n
 ·rw [c1] at H1;rw [if_pos rfl,QaU (by decide)]
  clear c1;go_enter func139,ntmps139
  go_wp2_with (go_at_call 120;refine H1.mono ?_;rintro e w' ⟨rfl,rfl⟩);go_ret;exact ⟨rfl,rfl⟩
 rw [c1] at H1;rw [if_neg (by decide)]
 clear c1;by_cases c2:n=0
 ·subst c2;rw [if_neg (by simp),Qbk]
  go_enter func139,ntmps139
  go_wp2_with (go_at_call 120;refine H1.mono ?_;rintro e w' ⟨rfl,rfl⟩);go_ret;exact ⟨rfl,rfl⟩
 have c2':(n != 0)=true:=by simpa using c2
 by_cases c3:code=gain
 ·rw [if_pos ⟨c2,c3⟩,QaU (by decide)]
  subst c3;clear c2;go_enter func139,ntmps139
  go_wp2_with (go_at_call 120;refine H1.mono ?_;rintro e w' ⟨rfl,rfl⟩);go_ret;exact ⟨rfl,rfl⟩
 ·rw [if_neg (fun h=>c3 h.2),Qbk]
  have c3':=ch_ne c3;clear c2;go_enter func139,ntmps139
  go_wp2_with (go_at_call 120;refine H1.mono ?_;rintro e w' ⟨rfl,rfl⟩);go_ret;exact ⟨rfl,rfl⟩
def brL (n:Int) (base code gain:ByteArray):List Ln:=[⟨code,base,n⟩,⟨gain,base,-n⟩]
theorem rvRow_two (w:World) (n0:Nat) (x y:Ln) (hn:n0≤w.heap.size):Qag (w.alloc (.cells (x.cells++y.cells) 56)) n0 (.slice (some ⟨w.heap.size,0,none⟩) 2 2) [x,y]:=by
 refine ⟨rfl,.inr ⟨w.heap.size,2,x.cells++y.cells,rfl,hn,by unfold World.alloc;simp only [Array.getElem?_push_size],Nat.le_refl _,by unfold maxLen;omega,rfl,?_⟩⟩
 simp [Qas,Ln.cells]
theorem brought_any (n:Int) (base code gain:ByteArray) (w:World) (h1:-9223372036854775807≤n) (h2:n≤9223372036854775807) :
  Calls prog 140 #[.int .i64 n,.string base,.string code,.string gain] w fun e w'=>∃ adr cap,e=.returned (.slice adr 2 cap)∧Qag w' w.heap.size (.slice adr 2 cap) (brL n base code gain)∧Below w.heap.size w w':=by
 have wn:IntKind.i64.wrap (-n) = -n:=by
  simp only [IntKind.wrap,IntKind.bits,IntKind.signed];simp;omega
 have HE:Hid (Qag (w.alloc (.cells #[.string code,.string base,.int .i64 n,.string gain,.string base,.int .i64 (-n)] 56)) w.heap.size (.slice (some ⟨w.heap.size,0,none⟩) 2 2) (brL n base code gain)∧Below w.heap.size w (w.alloc (.cells #[.string code,.string base,.int .i64 n,.string gain,.string base,.int .i64 (-n)] 56))):=
  ⟨rvRow_two w w.heap.size ⟨code,base,n⟩ ⟨gain,base,-n⟩ (Nat.le_refl _),(Below.refl _ w).alloc (Nat.le_refl _) _⟩
 clear h1 h2;go_enter func140,ntmps140
 go_wp2;go_ret;exact ⟨_,_,rfl,HE.out.1,HE.out.2⟩
end
section
open Go.RowKit Go.Lib Math Go.Proofs.Tryz
def Qhg (en:Int) (code base:ByteArray) (x:Bl):Bool:=decide (x.ent=en) && (decide (x.acc=code) && !decide (x.cur=base))
def QbN (f:Bl→Int) (en:Int) (code base:ByteArray) (b:List Bl):List Int:=(b.filter (Qhg en code base)).map f
abbrev QeJ (s:Int):Prop:=-9223372036854775808≤s∧s≤9223372036854775807
theorem othL_next (f:Bl→Int) (en:Int) (code base:ByteArray) (b:List Bl) (k:Nat) (h:k<b.length):QbN f en code base (b.take (k+1))=QbN f en code base (b.take k)++(if Qhg en code base (b.getD k bl0)=true then [f (b.getD k bl0)] else []):=by
 unfold QbN;rw [Qfd b k h,List.filter_append,List.map_append];congr 1;cases hh:Qhg en code base (b.getD k bl0)
 ·rw [List.filter_cons_of_neg (by rw [hh];simp),if_neg (by simp)];rfl
 ·rw [List.filter_cons_of_pos hh,if_pos rfl];rfl
theorem othL_len (f:Bl→Int) (en:Int) (code base:ByteArray) (b:List Bl):(QbN f en code base b).length≤b.length:=by
 unfold QbN;rw [List.length_map];exact List.length_filter_le _ _
theorem othL_get {f:Bl→Int} (hf:∀ x,QeJ (f x)) (en:Int) (code base:ByteArray) (b:List Bl):∀ i,i<(QbN f en code base b).length→QeJ ((QbN f en code base b).getD i 0):=fun i hi=>by
 rw [List.getD_eq_getElem?_getD,List.getElem?_eq_getElem hi]
 have:(QbN f en code base b)[i]∈QbN f en code base b:=List.getElem_mem hi
 obtain ⟨x,_,e⟩:=List.mem_map.1 this;show QeJ (QbN f en code base b)[i];rw [← e];exact hf x
theorem ltot_hit {b:List Bl} (hr:Qdx b) {k:Nat} (h:k<b.length):ltot (b.getD k bl0).key (b.take (k+1))=(b.getD k bl0).amt:=by
 have h2:Qdx (b.take (k+1)):=hr.sublist (List.take_sublist _ _);refine QcD h2 _ ?_;rw [Qfd b k h];exact List.mem_append_right _ (List.mem_singleton.2 rfl)
theorem ltot_miss {b:List Bl} {q:Pk} {k:Nat} (h:k<b.length) (hk:(b.getD k bl0).key≠q):ltot q (b.take (k+1))=ltot q (b.take k):=by
 rw [Qfd b k h,Qg2,ltot,if_neg hk,ltot];omega
def lkE (o:List Int) (h:Int):Int:=if o.length=0 then 0 else if ¬ QeJ o.sum then 10 else if ¬ QeJ (o.sum - h) then 10 else 0
def lkV (o:List Int) (h:Int):Int:=if o.length=0 then 0 else if ¬ QeJ o.sum then 0 else if ¬ QeJ (o.sum - h) then 0 else o.sum - h
theorem lk_fit {o:List Int} {h:Int} (c0:¬ o.length=0) (c1:QeJ o.sum):lkV o h=sumV (o.sum + -h)∧Qec (lkE o h)=sumE (o.sum + -h):=by
 have e:o.sum - h=o.sum + -h:=by omega
 have n1:¬ ¬ QeJ o.sum:=fun hh=>hh c1
 unfold lkV lkE;rw [e];simp only [if_neg c0,if_neg n1];generalize o.sum + -h=s at *
 by_cases c2:QeJ s
 ·obtain ⟨g1,g2⟩:=sum_fit s c2;have n2:¬ ¬ QeJ s:=fun hh=>hh c2
  simp only [if_neg n2,g1,g2];exact ⟨trivial,rfl⟩
 ·obtain ⟨g1,g2⟩:=QhU s c2;simp only [if_pos c2,g1,g2];exact ⟨trivial,rfl⟩
set_option maxHeartbeats 4000000 in
theorem lacking_any (a2:Option Addr) (cap2 g capw:Nat) (f:Bl→Int) (base code:ByteArray) (b:List Bl) (en:Int) (w:World) (hb:Qcn w a2 b cap2) (hfi:Fine b) (hf:∀ x,QeJ (f x)) (hw:Qee w g (b.map f)) :
  Calls prog 138 #[.slice a2 b.length cap2,.slice (some ⟨g,0,none⟩) b.length capw,.string base,.int .i64 en,.string code] w fun e w'=>e=.returned (.tuple #[.int .i64 (lkV (QbN f en code base b) (ltot (en,code,base) b)),Qec (lkE (QbN f en code base b) (ltot (en,code,base) b))])∧Below w.heap.size w w':=by
 have l200:=hfi.len;have HBl:Hid (Qcn w a2 b cap2):=hb;have HW:Hid (Qee w g (b.map f)):=hw;have HFi:Hid (Fine b):=hfi;have HF:Hid (∀ x,QeJ (f x)):=hf;obtain ⟨rv,hrv⟩:∃ rv,lkV (QbN f en code base b) (ltot (en,code,base) b)=rv:=⟨_,rfl⟩;obtain ⟨re,hre⟩:∃ re,Qec (lkE (QbN f en code base b) (ltot (en,code,base) b))=re:=⟨_,rfl⟩;have HRv:Hid (lkV (QbN f en code base b) (ltot (en,code,base) b)=rv):=hrv
 have HRe:Hid (Qec (lkE (QbN f en code base b) (ltot (en,code,base) b))=re):=hre;rw [hrv,hre];obtain ⟨N0,hN0⟩:∃ N0,w.heap.size=N0:=⟨_,rfl⟩;have HN0:Hid (w.heap.size=N0):=hN0;clear hb hfi hw hrv hre hf hN0;obtain ⟨ii,hi0,hz0,hz1,hz2⟩:=info_parts rv_int;go_enter func138,ntmps138
 go_wp2;go_loopw [12,13,20] (fun v h i wr=>∃ (k:Nat) (sa:Option Addr) (sn sc:Nat) (hh:Int),k≤b.length∧i=.int .i64 k∧v=.slice sa sn sc∧h=.int .i64 hh∧Hid (sn=(QbN f en code base (b.take k)).length∧hh=ltot (en,code,base) (b.take k)∧wr.ownsRow N0 3 1 (.slice sa sn sc) (QbN f en code base (b.take k)).length ((QbN f en code base (b.take k)).map (Value.int .i64))∧Below N0 w wr)) (fun _ _ i _=>b.length - (RowKit.intOf i).toNat)
 case atStart=>exact ⟨0,none,0,0,0,Nat.zero_le _,rfl,rfl,rfl,by simp [QbN],by simp [ltot],World.ownsRow_nil _ _ _ _,Below.refl _ _⟩
 case round=>
  obtain ⟨k,sa,sn,sc,hh,hk,rfl,rfl,rfl,HR⟩:=hrel;by_cases hlt:k<b.length
  ·obtain ⟨bb,off,rfl,hbb,hcc⟩:=HBl.out.some hlt;have hbw:Below w.heap.size w wr:=by rw [HN0.out];exact HR.out.2.2.2
   have hx:=(hcc k hlt).below hbw hbb;have i0:(0:Int)≤k:=by omega
   have i3:(k:Int)<b.length:=by omega
   have hwc:wr.cell? ⟨g,k,none⟩=some (.int .i64 (f (b.getD k bl0))):=by
    have h1:=(HW.out.belowS hbw HW.out.ltS).cell (i:=k) (by simpa using hlt)
    rw [h1];simp [List.getD_eq_getElem?_getD,List.getElem?_eq_getElem hlt]
   have hnx:=othL_next f en code base b k hlt;have hhit:=ltot_hit HFi.out.rises hlt;have hmis:=ltot_miss (q:=(en,code,base)) hlt;have hfx:=HF.out (b.getD k bl0);obtain ⟨x,hxx⟩:∃ x,b.getD k bl0=x:=⟨_,rfl⟩;rw [hxx] at hx hwc hnx hhit hmis hfx;have HNx:Hid (QbN f en code base (b.take (k+1))=QbN f en code base (b.take k)++(if Qhg en code base x=true then [f x] else [])):=hnx
   have HHit:Hid (ltot x.key (b.take (k+1))=x.amt):=hhit;have HMis:Hid (x.key≠(en,code,base)→ltot (en,code,base) (b.take (k+1))=ltot (en,code,base) (b.take k)):=hmis;clear hxx hcc hnx hhit hmis;obtain ⟨Z,hZ⟩:∃ Z,wr.alloc (.cells x.cells 63)=Z:=⟨_,rfl⟩;have hbZ:Below wr.heap.size wr Z:=by rw [← hZ];exact (Below.refl _ _).alloc (Nat.le_refl _) _
   have hbt:BlAt Z wr.heap.size 0 x:=by rw [← hZ];exact BlAt.new wr x 63
   have hwZ:Z.cell? ⟨g,k,none⟩=some (.int .i64 (f x)):=(hbZ.cell (p:=⟨g,k,none⟩) (World.block_lt_of_cell? _ _ hwc)).trans hwc;have hn0:N0≤wr.heap.size:=by have:=hbw.size;rw [HN0.out] at this;exact this
   have HRZ:Hid (Z.ownsRow N0 3 1 (.slice sa sn sc) (QbN f en code base (b.take k)).length ((QbN f en code base (b.take k)).map (Value.int .i64))∧Below N0 w Z):=by
    rw [← hZ];exact ⟨World.ownsRow.alloc HR.out.2.2.1 _,HR.out.2.2.2.alloc hn0 _⟩
   have HZ:Hid (wr.alloc (.cells x.cells 63)=Z):=hZ;have HNZ:Hid (N0≤Z.heap.size):=by have:=hbZ.size;unfold Hid;omega
   have HSn:Hid (sn=(QbN f en code base (b.take k)).length∧hh=ltot (en,code,base) (b.take k)):=⟨HR.out.1,HR.out.2.1⟩;clear hZ hbZ hwc hbw HR;by_cases c1:x.ent=en
   ·by_cases c2:x.acc=code
    ·by_cases c3:x.cur=base
     ·have HN:Hid (sn=(QbN f en code base (b.take (k+1))).length∧x.amt=ltot (en,code,base) (b.take (k+1))∧Z.ownsRow N0 3 1 (.slice sa sn sc) (QbN f en code base (b.take (k+1))).length ((QbN f en code base (b.take (k+1))).map (Value.int .i64))∧Below N0 w Z):=by
       have e:QbN f en code base (b.take (k+1))=QbN f en code base (b.take k):=by rw [HNx.out,if_neg (by simp [Qhg,c3]),List.append_nil]
       have e2:x.key=(en,code,base):=by simp [Bl.key,c1,c2,c3]
       rw [e];refine ⟨HSn.out.1,?_,HRZ.out⟩;rw [← HHit.out,e2]
      obtain ⟨x0,x1,x2,x3⟩:=x;obtain ⟨d0,d1,d2,d3⟩:=hx;obtain ⟨f0,f1,f2,f3⟩:=hbt;simp only [Bl.cells,Nat.zero_add] at d0 d1 d2 d3 f0 f1 f2 f3 c1 c2 c3 HZ HN;subst c1;subst c2;subst c3;have hq:(x0 != x0)=false:=by simp
      clear HNx HHit HMis HRZ HSn hfx;go_upto_region 7 with fail
      rw [HZ.out];clear HZ d0 d1 d2 d3;go_wp2;go_roundw
      case rel=>exact ⟨k+1,sa,sn,sc,x3,by omega,by go_num,rfl,rfl,HN⟩
      case measure=>simp [RowKit.intOf];omega
     ·have e1:QbN f en code base (b.take (k+1))=QbN f en code base (b.take k)++[f x]:=by rw [HNx.out,if_pos (by simp [Qhg,c1,c2,c3])]
      have e2:x.key≠(en,code,base):=fun e=>c3 (by simpa [Bl.key,c1,c2] using e)
      have hol:=othL_len f en code base (b.take k);have hol2:(QbN f en code base (b.take k)).length≤200:=by simp at hol;omega
      have HAdd:Hid (∀ v' w6,World.ownsRow w6 N0 3 1 v' ((QbN f en code base (b.take k)).length+1) ((QbN f en code base (b.take k)).map (Value.int .i64)++[.int .i64 (f x)])→(Z.alloc (.cells #[.int .i64 (f x)] 3)).grownBy w6 (Value.slice sa sn sc).ownBlock→∃ ta tn tc,v'=.slice ta tn tc∧tn=(QbN f en code base (b.take (k+1))).length∧hh=ltot (en,code,base) (b.take (k+1))∧w6.ownsRow N0 3 1 (.slice ta tn tc) (QbN f en code base (b.take (k+1))).length ((QbN f en code base (b.take (k+1))).map (Value.int .i64))∧Below N0 w w6):=fun v' w6 h1 h2=>by
       rw [e1,List.length_append,List.map_append];have hz:=HRZ.out.2.alloc HNZ.out (.cells #[.int .i64 (f x)] 3);have hbd:=hz.grown h2 (by have:=HNZ.out;simp;omega) (fun j e=>by
        rcases HRZ.out.1.2 with ⟨h,_⟩ | ⟨g',cp,cur,h,hg,_⟩
        ·cases h;cases e
        ·cases h;cases e;exact hg)
       have hv:∃ ta tn tc,v'=.slice ta tn tc∧tn=(QbN f en code base (b.take k)).length+1:=by
        rcases h1.2 with ⟨rfl,h0⟩ | ⟨g',cp,cur,rfl,_⟩
        ·omega
        ·exact ⟨_,_,_,rfl,rfl⟩
       obtain ⟨ta,tn,tc,rfl,htn⟩:=hv;refine ⟨ta,tn,tc,rfl,htn,by rw [HMis.out e2];exact HSn.out.2,?_,hbd⟩
       exact h1
      have HRow:Hid (World.ownsRow (Z.alloc (.cells #[.int .i64 (f x)] 3)) N0 3 1 (.slice sa sn sc) (QbN f en code base (b.take k)).length ((QbN f en code base (b.take k)).map (Value.int .i64))):=World.ownsRow.alloc HRZ.out.1 _;have s2:Hid ((QbN f en code base (b.take k)).length+1≤maxLen∧((QbN f en code base (b.take k)).length+1)*8≤140737488355328):=by unfold Hid maxLen;omega
      have s4:Hid (N0≤(Z.alloc (.cells #[.int .i64 (f x)] 3)).heap.size):=by have:=HNZ.out;unfold Hid;simp;omega
      have s5:Hid (∀ u∈([.int .i64 (f x)]:List Value),u.oneCell'=true):=by intro u hu;rw [List.mem_singleton] at hu;subst hu;rfl
      generalize f x=fx at *
      obtain ⟨x0,x1,x2,x3⟩:=x;obtain ⟨d0,d1,d2,d3⟩:=hx;obtain ⟨f0,f1,f2,f3⟩:=hbt;simp only [Bl.cells,Nat.zero_add] at d0 d1 d2 d3 f0 f1 f2 f3 c1 c2 c3 HZ;subst c1;subst c2;have c3':=ch_ne c3;have hq:(x0 != x0)=false:=by simp
      clear HNx HHit HMis HRZ HSn hfx e1 e2 hol hol2 c3;generalize (QbN f x0 x1 base (b.take k)).map (Value.int .i64)=OL at HAdd HRow;generalize (QbN f x0 x1 base (b.take k)).length=ON at HAdd HRow s2;go_upto_region 7 with fail
      rw [HZ.out];clear HZ d0 d1 d2 d3;go_wp2_with (at_builtin;refine wpList_append_own _ rfl _ _ 90 rfl N0 3 ii (.int .i64 0) 1 8 underlying90 hi0 hz0 hz1 hz2 rfl (by decide) _ _ _ rfl HRow.out ⟨Z.heap.size,0,none⟩ 1 1 [.int .i64 fx] rfl rfl (World.news_of_block (World.alloc_heap_new Z _)) s5.out s2.out.1 s2.out.2 s4.out ?_)
      intro v' w6 hown' hgrow _;obtain ⟨ta,tn,tc,rfl,hn1,hn2,hn3,hn4⟩:=HAdd.out v' w6 hown' hgrow;have HN:Hid _:=And.intro hn1 (And.intro hn2 (And.intro hn3 hn4));clear HAdd HRow hown' hgrow hn1 hn2 hn3 hn4 f0 f1 f2 f3 hwZ;go_wp2;go_roundw
      case rel=>exact ⟨k+1,ta,tn,tc,hh,by omega,by go_num,rfl,rfl,HN⟩
      case measure=>simp [RowKit.intOf];omega
    ·have HN:Hid (sn=(QbN f en code base (b.take (k+1))).length∧hh=ltot (en,code,base) (b.take (k+1))∧Z.ownsRow N0 3 1 (.slice sa sn sc) (QbN f en code base (b.take (k+1))).length ((QbN f en code base (b.take (k+1))).map (Value.int .i64))∧Below N0 w Z):=by
      have e:QbN f en code base (b.take (k+1))=QbN f en code base (b.take k):=by rw [HNx.out,if_neg (by simp [Qhg,c2]),List.append_nil]
      rw [e,HMis.out (fun e=>c2 (by simp only [Bl.key,Prod.mk.injEq] at e;exact e.2.1))]
      exact ⟨HSn.out.1,HSn.out.2,HRZ.out⟩
     obtain ⟨x0,x1,x2,x3⟩:=x;obtain ⟨d0,d1,d2,d3⟩:=hx;obtain ⟨f0,f1,f2,f3⟩:=hbt;simp only [Bl.cells,Nat.zero_add] at d0 d1 d2 d3 f0 f1 f2 f3 c1 c2 HZ;subst c1;have c2':=ch_ne c2;have hq:(x0 != x0)=false:=by simp
     clear HNx HHit HMis HRZ HSn hfx c2;go_upto_region 7 with fail
     rw [HZ.out];clear HZ d0 d1 d2 d3;go_wp2;go_roundw
     case rel=>exact ⟨k+1,sa,sn,sc,hh,by omega,by go_num,rfl,rfl,HN⟩
     case measure=>simp [RowKit.intOf];omega
   ·have HN:Hid (sn=(QbN f en code base (b.take (k+1))).length∧hh=ltot (en,code,base) (b.take (k+1))∧Z.ownsRow N0 3 1 (.slice sa sn sc) (QbN f en code base (b.take (k+1))).length ((QbN f en code base (b.take (k+1))).map (Value.int .i64))∧Below N0 w Z):=by
     have e:QbN f en code base (b.take (k+1))=QbN f en code base (b.take k):=by rw [HNx.out,if_neg (by simp [Qhg,c1]),List.append_nil]
     rw [e,HMis.out (fun e=>c1 (by simp only [Bl.key,Prod.mk.injEq] at e;exact e.1))]
     exact ⟨HSn.out.1,HSn.out.2,HRZ.out⟩
    obtain ⟨x0,x1,x2,x3⟩:=x;obtain ⟨d0,d1,d2,d3⟩:=hx;obtain ⟨f0,f1,f2,f3⟩:=hbt;simp only [Bl.cells,Nat.zero_add] at d0 d1 d2 d3 f0 f1 f2 f3 c1 HZ;have hq:(x0 != en)=true:=by simp [c1]
    clear HNx HHit HMis HRZ HSn hfx c1;go_upto_region 7 with fail
    rw [HZ.out];clear HZ d0 d1 d2 d3;go_wp2;go_roundw
    case rel=>exact ⟨k+1,sa,sn,sc,hh,by omega,by go_num,rfl,rfl,HN⟩
    case measure=>simp [RowKit.intOf];omega
  ·obtain rfl:k=b.length:=by omega
   obtain ⟨r1,r2,r3,r4⟩:=HR.out;rw [List.take_length] at r1 r2 r3;have i3:¬ (b.length:Int)<b.length:=by omega
   have hft:=othL_get HF.out en code base b;have hol:=othL_len f en code base b;have hhb:-1000000000000000000≤hh∧hh≤1000000000000000000:=by
    rw [r2];by_cases e:ltot (en,code,base) b=0
    ·omega
    ·obtain ⟨x,hx,hk⟩:=ltot_ex e;rw [← hk,QcD HFi.out.rises x hx];exact HFi.out.amt x hx
   have HB:Hid (Below w.heap.size w wr):=by rw [HN0.out];exact r4
   rw [← r2] at HRv HRe;generalize QbN f en code base b=o at *
   have HRow:Hid (wr.ownsRow N0 3 1 (.slice sa sn sc) o.length (o.map (Value.int .i64))):=r3;have HFt:Hid (∀ i,i<o.length→I64 (o.getD i 0)):=hft;have HSum:Hid (Calls prog 99 #[.slice sa sn sc] wr fun e w'=>e=.returned (.tuple #[.int .i64 (sumV o.sum),sumE o.sum])∧w'=wr):=sum_own N0 o.length 3 _ o wr (by omega) HFt HRow
   clear r2 r3 r4 hft HR;by_cases c0:o.length=0
   ·have e1:rv=0:=by rw [← HRv.out];exact if_pos c0
    have e2:re=.nilIface:=by rw [← HRe.out];unfold lkE;rw [if_pos c0];rfl
    subst e1;subst e2;rw [c0] at r1;subst r1;clear HRv HRe HSum HRow HFt c0 hol;go_wp2;go_ret2;exact ⟨rfl,HB.out⟩
   have n0:((sn:Int) == 0)=false:=by rw [beq_eq_false_iff_ne];omega
   by_cases c1:QeJ o.sum
   ·obtain ⟨g1,g2⟩:=sum_fit o.sum c1;rw [g1,g2] at HSum;have wn:IntKind.i64.wrap (-hh) = -hh:=by
     simp only [IntKind.wrap,IntKind.bits,IntKind.signed];simp;omega
    have HAd:Hid (∀ W,Calls prog 176 #[.int .i64 o.sum,.int .i64 (-hh)] W fun e w'=>e=.returned (.tuple #[.int .i64 (sumV (o.sum + -hh)),sumE (o.sum + -hh)])∧∃ c,w'=W.alloc c):=fun W=>moneyAdd_any o.sum (-hh) W c1 ⟨by omega,by omega⟩
    have e1:rv=sumV (o.sum + -hh)∧re=sumE (o.sum + -hh):=by
     rw [← HRv.out,← HRe.out];exact lk_fit c0 c1
    rw [← e1.1,← e1.2] at HAd;clear HRv HRe HRow HFt c0 hol c1 g1 g2 r1 hhb e1;generalize o.sum=os at *
    go_wp2_with fail;refine HSum.out.mono ?_;rintro e w' ⟨rfl,hw⟩;rw [hw];clear hw w' HSum;go_wp2_with fail;refine (HAd.out _).mono ?_;rintro e w' ⟨rfl,ob,hw⟩;have HB2:Hid (Below w.heap.size w w'):=by rw [hw];exact HB.out.alloc HB.out.size _
    clear hw HAd;go_wp2;go_ret2;exact ⟨rfl,HB2.out⟩
   ·obtain ⟨g1,g2⟩:=QhU o.sum c1;rw [g1,g2] at HSum;have e1:rv=0:=by rw [← HRv.out];unfold lkV;rw [if_neg c0,if_pos c1]
    have e2:re=.iface 66 (.int .i64 10):=by rw [← HRe.out];unfold lkE;rw [if_neg c0,if_pos c1];rfl
    subst e1;subst e2;clear HRv HRe HRow HFt c0 hol c1 g1 g2 r1 hhb;go_wp2_with fail;refine HSum.out.mono ?_;rintro e w' ⟨rfl,hw⟩;rw [hw];clear hw w' HSum;go_wp2;go_ret2;exact ⟨rfl,HB.out⟩
end
end Go.Proofs.YtjifbbdkpanagaaGreatDoor
