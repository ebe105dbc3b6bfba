/-
  Part of a proof (see the last text).
-/
import Derived.Test.YtibhgngboljhfaaGreatDoorZp7
import Derived.Test.YtibhgngboljhfaaGreatDoorShelf
import Derived.Lib.ItoaLen
import Derived.Lib.AppendIntMem
set_option linter.unusedVariables false
set_option linter.unusedSimpArgs false
set_option maxRecDepth 100000
namespace Go.Proofs.YtibhgngboljhfaaGreatDoor
section
open Go.RowKit Go.Lib Go.Proofs.Tryz
def Qgj (w : World) : Prop := Lib.TabIs prog w "internal/strconv.uint64pow10" .u64 Lib.pow10Tab
theorem Qgj.below {w w':World} (h:Qgj w) (hb:Below w.heap.size w w'):Qgj w':=by
 unfold Qgj Lib.TabIs World.var? at *
 cases hg : prog.globalNamed "internal/strconv.uint64pow10" with
 | none=>simp [hg] at h
 | some g=>
  simp only [hg,Option.bind_some] at h ⊢;have hlt:g<w.heap.size:=by
   rcases Nat.lt_or_ge g w.heap.size with h' | h'
   ·exact h'
   ·rw [Array.getElem?_eq_none h'] at h;simp at h
  rw [hb.block g hlt];exact h
def itS (n:Int):ByteArray:=⟨(Lib.itoa n).toArray⟩
theorem itS_size (n:Int) (h1:1≤n) (h2:n≤120):(itS n).size≤21:=by
 have:=Lib.itoa_length_le n (by omega) (by omega)
 exact this
theorem QiR (n:Int) (h1:1≤n) (h2:n≤120) (w:World) (ht:Qgj w) :
  Calls prog 34 #[.int .i64 n] w fun e w'=>e=.returned (.string (itS n))∧Below w.heap.size w w':=by
 refine (shelf_strconv_Itoa n (by omega) (by omega) w ht).mono ?_
 rintro e w' ⟨rfl,k,os,rfl⟩;exact ⟨rfl,Lib.below_grow w.heap.size w (Nat.le_refl _) k os⟩
def QiC (r:ByteArray) (pe:Int):ByteArray:=r++(⟨#[45]⟩:ByteArray)++itS pe
def QcJ (p:Pn) (n:Int):List Ln:=[⟨p.src,p.cur,n⟩,⟨p.dst,p.cur,-n⟩]
theorem lnRow_two (w:World) (n0:Nat) (x y:Ln) (hn:n0≤w.heap.size):Qab (w.alloc (.cells (x.cells++y.cells) 44)) n0 (.slice (some ⟨w.heap.size,0,none⟩) 2 2) [x,y]:=by
 refine ⟨rfl,.inr ⟨w.heap.size,2,x.cells++y.cells,rfl,hn,by unfold World.alloc;simp only [Array.getElem?_push_size],Nat.le_refl _,by unfold maxLen;omega,rfl,?_⟩⟩
 simp [Qah,Ln.cells]
theorem QhA (x0 x1:ByteArray) (x2:Int) (w:World):(Instr.build 44 #[(0,.string x0),(1,.string x1),(2,.int .i64 x2)]).run prog w=.ok (.agg #[.string x0,.string x1,.int .i64 x2]) w:=by
 go_simp
theorem Qim (x0:ByteArray) (x1 x2:Int) (a:Option Addr) (n c:Nat) (w:World):(Instr.build 38 #[(0,.string x0),(1,.int .i64 x1),(2,.int .i64 x2),(3,.slice a n c)]).run prog w=.ok (.agg #[.string x0,.int .i64 x1,.int .i64 x2,.slice a n c]) w:=by
 go_simp
set_option maxHeartbeats 8000000 in
theorem accrued_any (p:Pn) (pe n:Int) (w:World) (ht:Qgj w) (h1:1≤pe) (h2:pe≤120) (hr:p.ref.size≤8) (hn:-9223372036854775807≤n∧n≤9223372036854775807) :
  Calls prog 115 #[.agg p.cells,.int .i64 pe,.int .i64 n] w fun e w'=>∃ adr cap,e=.returned (.agg #[.string (QiC p.ref pe),.int .i64 p.ent,.int .i64 pe,.slice adr 2 cap])∧Qab w' w.heap.size (.slice adr 2 cap) (QcJ p n)∧Below w.heap.size w w':=by
 obtain ⟨B,hB⟩:∃ B,w.heap.size=B:=⟨_,rfl⟩;obtain ⟨V,hV⟩:∃ V,((w.alloc (.cells p.cells 93)).alloc (.cells #[.string (⟨#[]⟩:ByteArray),.int .i64 0,.int .i64 0,.slice none 0 0] 38))=V:=⟨_,rfl⟩;have b0:Below B w V:=by rw [← hV,← hB];exact ((Below.refl _ w).alloc (Nat.le_refl _) _).alloc (by simp) _
 have hs:V.heap.size=B+2:=by rw [← hV,← hB];simp
 have hx:Qio V B 0 p:=by
  rw [← hV,← hB];exact (Qio.new w p _).below ((Below.refl _ _).alloc (Nat.le_refl _) _) (by simp)
 have hz:Qcv V (B+1) (⟨#[]⟩:ByteArray) 0 0 (.slice none 0 0):=by
  have:=Qcv.new (w.alloc (.cells p.cells 93)) (⟨#[]⟩:ByteArray) 0 0 (.slice none 0 0)
  rw [← hV,← hB];simpa using this
 have hd:Below (B+2) V V.drew:=⟨rfl,rfl,rfl,Nat.le_refl _,fun _ _=>rfl⟩
 have HP:Hid (∀ u,Below (B+2) V.drew u→Qio u B 0 p):=fun u hu=>(hx.below hd (by omega)).below hu (by omega)
 have HZ:Hid (∀ u,Below (B+2) V.drew u→Qcv u (B+1) (⟨#[]⟩:ByteArray) 0 0 (.slice none 0 0)∧Below B w u∧B+2≤u.heap.size):=fun u hu=>
  ⟨(hz.below hd (by omega)).below hu (by omega),b0.drew.trans (hu.mono (by omega)),by have:=hu.size;show B+2≤u.heap.size;have h3:V.drew.heap.size=B+2:=hs;omega⟩
 have HIt:Hid (∀ u,Below (B+2) V.drew u→Calls prog 34 #[.int .i64 pe] u fun e w'=>e=.returned (.string (itS pe))∧Below (B+2) V.drew w'):=fun u hu=>by
  refine (QiR pe h1 h2 u ((ht.below (hB▸b0)).below (hs▸hd.trans hu))).mono ?_;rintro e w' ⟨rfl,hb⟩;exact ⟨rfl,hu.trans (hb.mono (HZ.out u hu).2.2)⟩
 have HIt2:Hid (∀ u,Below (B+2) V.drew u→Calls prog 34 #[.int .i64 pe] u fun e w'=>e=.returned (.string (itS pe))∧Below (B+2) V.drew w'∧Below u.heap.size u w'):=fun u hu=>by
  refine (QiR pe h1 h2 u ((ht.below (hB▸b0)).below (hs▸hd.trans hu))).mono ?_;rintro e w' ⟨rfl,hb⟩;exact ⟨rfl,hu.trans (hb.mono (HZ.out u hu).2.2),hb⟩
 have hz1:(itS pe).size≤21:=itS_size pe h1 h2;have HEnd:Hid (∀ u (a:Nat),Below (B+2) V.drew u→B+2≤a→Qab u (B+2) (.slice (some ⟨a,0,none⟩) 2 2) (QcJ p n)→Qab ((((u.setCell ⟨B+1,0,none⟩ (.string (QiC p.ref pe))).setCell ⟨B+1,1,none⟩ (.int .i64 p.ent)).setCell ⟨B+1,2,none⟩ (.int .i64 pe)).setCell ⟨B+1,3,none⟩ (.slice (some ⟨a,0,none⟩) 2 2)) B (.slice (some ⟨a,0,none⟩) 2 2) (QcJ p n)∧Below B w ((((u.setCell ⟨B+1,0,none⟩ (.string (QiC p.ref pe))).setCell ⟨B+1,1,none⟩ (.int .i64 p.ent)).setCell ⟨B+1,2,none⟩ (.int .i64 pe)).setCell ⟨B+1,3,none⟩ (.slice (some ⟨a,0,none⟩) 2 2))):=fun u a hu ha hl=>by
  have hlt:B+1<B+2:=by omega
  refine ⟨Qab.mono (Qab.setOther (b:=B+1) (o:=3) (Qab.setOther (b:=B+1) (o:=2) (Qab.setOther (b:=B+1) (o:=1) (Qab.setOther (b:=B+1) (o:=0) hl hlt) hlt) hlt) hlt) (by omega),?_⟩
  exact ((((HZ.out u hu).2.1.setCell (p:=⟨B+1,0,none⟩) (by simp) _).setCell (p:=⟨B+1,1,none⟩) (by simp) _).setCell (p:=⟨B+1,2,none⟩) (by simp) _).setCell (p:=⟨B+1,3,none⟩) (by simp) _
 have HsU:Hid (V.drew.heap.size=B+2):=hs;have wn:IntKind.i64.wrap (-n) = -n:=QdS (by omega) (by omega)
 have HLn:Hid (QcJ p n=[⟨p.src,p.cur,n⟩,⟨p.dst,p.cur,-n⟩]):=rfl;have HRf:Hid (QiC p.ref pe=p.ref++(⟨#[45]⟩:ByteArray)++itS pe):=rfl;have HV:Hid (_=V):=hV;clear hV b0 hx hz ht hn hs hd;rw [hB];obtain ⟨ref,en,fr,tw,cu,am,fs,pr⟩:=p;simp only [Pn.cells] at HV HP HEnd HLn HRf hr ⊢;have s1:¬ 9223372036854775807<ref.size+1:=by omega
 have s2:¬ 9223372036854775807<(ref++(⟨#[45]⟩:ByteArray)).size+(itS pe).size:=by
  have:(ref++(⟨#[45]⟩:ByteArray)).size=ref.size+1:=by rw [ByteArray.size_append];rfl
  omega
 generalize itS pe=ds at *
 generalize QcJ ⟨ref,en,fr,tw,cu,am,fs,pr⟩ n=LN at *
 have HRf2:Hid (QiC ref pe=ref++(⟨#[45]⟩:ByteArray)++ds):=HRf.out;generalize QiC ref pe=RF at *
 clear HRf;go_enter func115,ntmps115
 go_upto_region 1 with fail
 rw [HV.out];clear HV;refine Qal (by kernel_rfl) ?_
 generalize V.drew=U at *
 refine wpAny_take (i:=0) (v:=.pointer (some ⟨B,0,none⟩)) rfl (by kernel_rfl) (by kernel_rfl) (by kernel_rfl) (fun _ _ _ h=>h) (Or.inl ⟨by rfl,fun w=>by go_simp⟩) ?_
 simp only [Act.put,zq0,zq1,zq2,zq3,zq4,zq5];refine wpAny_take (i:=3) (v:=.int .i64 pe) rfl (by kernel_rfl) (by kernel_rfl) (by kernel_rfl) (fun _ _ _ h=>h) (Or.inl ⟨by rfl,fun w=>by go_simp⟩) ?_
 simp only [Act.put,zq0,zq1,zq2,zq3,zq4,zq5];refine wpAny_take (i:=6) (v:=.pointer (some ⟨B,1,none⟩)) rfl (by kernel_rfl) (by kernel_rfl) (by kernel_rfl) (fun _ _ _ h=>h) (Or.inl ⟨by rfl,fun w=>by go_simp⟩) ?_
 simp only [Act.put,zq0,zq1,zq2,zq3,zq4,zq5];refine wpAny_take (i:=8) (v:=.int .i64 pe) rfl (by kernel_rfl) (by kernel_rfl) (by kernel_rfl) (fun _ _ _ h=>h) (Or.inl ⟨by rfl,fun w=>by go_simp⟩) ?_
 simp only [Act.put,zq0,zq1,zq2,zq3,zq4,zq5];refine wpAny_take (i:=9) (v:=.pointer (some ⟨B,2,none⟩)) rfl (by kernel_rfl) (by kernel_rfl) (by kernel_rfl) (fun _ _ _ h=>h) (Or.inl ⟨by rfl,fun w=>by go_simp⟩) ?_
 simp only [Act.put,zq0,zq1,zq2,zq3,zq4,zq5];refine wpAny_take (i:=11) (v:=.pointer (some ⟨B,4,none⟩)) rfl (by kernel_rfl) (by kernel_rfl) (by kernel_rfl) (fun _ _ _ h=>h) (Or.inl ⟨by rfl,fun w=>by go_simp⟩) ?_
 simp only [Act.put,zq0,zq1,zq2,zq3,zq4,zq5];refine wpAny_take (i:=13) (v:=.int .i64 n) rfl (by kernel_rfl) (by kernel_rfl) (by kernel_rfl) (fun _ _ _ h=>h) (Or.inl ⟨by rfl,fun w=>by go_simp⟩) ?_
 simp only [Act.put,zq0,zq1,zq2,zq3,zq4,zq5];refine wpAny_take (i:=15) (v:=.pointer (some ⟨B,3,none⟩)) rfl (by kernel_rfl) (by kernel_rfl) (by kernel_rfl) (fun _ _ _ h=>h) (Or.inl ⟨by rfl,fun w=>by go_simp⟩) ?_
 simp only [Act.put,zq0,zq1,zq2,zq3,zq4,zq5];refine wpAny_take (i:=17) (v:=.pointer (some ⟨B,4,none⟩)) rfl (by kernel_rfl) (by kernel_rfl) (by kernel_rfl) (fun _ _ _ h=>h) (Or.inl ⟨by rfl,fun w=>by go_simp⟩) ?_
 simp only [Act.put,zq0,zq1,zq2,zq3,zq4,zq5];refine wpAny_take (i:=19) (v:=.int .i64 n) rfl (by kernel_rfl) (by kernel_rfl) (by kernel_rfl) (fun _ _ _ h=>h) (Or.inl ⟨by rfl,fun w=>by go_simp⟩) ?_
 simp only [Act.put,zq0,zq1,zq2,zq3,zq4,zq5];refine wpAny_take (i:=20) (v:=.int .i64 (-n)) rfl (by kernel_rfl) (by kernel_rfl) (by kernel_rfl) (fun _ _ _ h=>h) (Or.inl ⟨by rfl,fun w=>by go_simp⟩) ?_
 simp only [Act.put,zq0,zq1,zq2,zq3,zq4,zq5];refine Qbq (g:=24) (T:=fun u=>Below (B+2) U u) _ _ _ _ ?_
 refine Qad [24,23,5,2] (i:=1) (v:=.string ref) rfl (by kernel_rfl) (by kernel_rfl) (by decide) (by kernel_rfl) (by kernel_rfl) (by kernel_rfl) (by kernel_rfl) (fun _ _ _ h=>h) (Or.inl ⟨by rfl,fun w' hw'=>by have c0:w'.cell? ⟨B,0,none⟩=some (.string ref):=(by have:=(HP.out w' hw').c0;simpa using this);clear hw';go_simp⟩) (Below.refl _ _) ?_
 simp only [Act.put,zq0,zq1,zq2,zq3,zq4,zq5];refine Qad [24,23] (i:=7) (v:=.int .i64 en) rfl (by kernel_rfl) (by kernel_rfl) (by decide) (by kernel_rfl) (by kernel_rfl) (by kernel_rfl) (by kernel_rfl) (fun _ _ _ h=>h) (Or.inl ⟨by rfl,fun w' hw'=>by have c0:w'.cell? ⟨B,1,none⟩=some (.int .i64 en):=(by have:=(HP.out w' hw').c1;simpa using this);clear hw';go_simp⟩) (Below.refl _ _) ?_
 simp only [Act.put,zq0,zq1,zq2,zq3,zq4,zq5];refine Qad [24,23,22,14] (i:=10) (v:=.string fr) rfl (by kernel_rfl) (by kernel_rfl) (by decide) (by kernel_rfl) (by kernel_rfl) (by kernel_rfl) (by kernel_rfl) (fun _ _ _ h=>h) (Or.inl ⟨by rfl,fun w' hw'=>by have c0:w'.cell? ⟨B,2,none⟩=some (.string fr):=(by have:=(HP.out w' hw').c2;simpa using this);clear hw';go_simp⟩) (Below.refl _ _) ?_
 simp only [Act.put,zq0,zq1,zq2,zq3,zq4,zq5];refine Qad [24,23,22,14] (i:=12) (v:=.string cu) rfl (by kernel_rfl) (by kernel_rfl) (by decide) (by kernel_rfl) (by kernel_rfl) (by kernel_rfl) (by kernel_rfl) (fun _ _ _ h=>h) (Or.inl ⟨by rfl,fun w' hw'=>by have c0:w'.cell? ⟨B,4,none⟩=some (.string cu):=(by have:=(HP.out w' hw').c4;simpa using this);clear hw';go_simp⟩) (Below.refl _ _) ?_
 simp only [Act.put,zq0,zq1,zq2,zq3,zq4,zq5];refine Qad [24,23,22,21] (i:=16) (v:=.string tw) rfl (by kernel_rfl) (by kernel_rfl) (by decide) (by kernel_rfl) (by kernel_rfl) (by kernel_rfl) (by kernel_rfl) (fun _ _ _ h=>h) (Or.inl ⟨by rfl,fun w' hw'=>by have c0:w'.cell? ⟨B,3,none⟩=some (.string tw):=(by have:=(HP.out w' hw').c3;simpa using this);clear hw';go_simp⟩) (Below.refl _ _) ?_
 simp only [Act.put,zq0,zq1,zq2,zq3,zq4,zq5];refine Qad [24,23,22,21] (i:=18) (v:=.string cu) rfl (by kernel_rfl) (by kernel_rfl) (by decide) (by kernel_rfl) (by kernel_rfl) (by kernel_rfl) (by kernel_rfl) (fun _ _ _ h=>h) (Or.inl ⟨by rfl,fun w' hw'=>by have c0:w'.cell? ⟨B,4,none⟩=some (.string cu):=(by have:=(HP.out w' hw').c4;simpa using this);clear hw';go_simp⟩) (Below.refl _ _) ?_
 simp only [Act.put,zq0,zq1,zq2,zq3,zq4,zq5];refine Qad [24,23,5] (i:=2) (v:=.string (ref++(⟨#[45]⟩:ByteArray))) rfl (by kernel_rfl) (by kernel_rfl) (by decide) (by kernel_rfl) (by kernel_rfl) (by kernel_rfl) (by kernel_rfl) (fun _ _ _ h=>h) (Or.inl ⟨by rfl,fun w' hw'=>by clear hw';go_simp⟩) (Below.refl _ _) ?_
 simp only [Act.put,zq0,zq1,zq2,zq3,zq4,zq5];refine Qad [24,23,22] (i:=14) (v:=.agg #[.string fr,.string cu,.int .i64 n]) rfl (by kernel_rfl) (by kernel_rfl) (by decide) (by kernel_rfl) (by kernel_rfl) (by kernel_rfl) (by kernel_rfl) (fun _ _ _ h=>h) ?_ (Below.refl _ _) ?_
 ·exact QaP (by rfl) 44 _ (by rfl) #[(0,.string fr),(1,.string cu),(2,.int .i64 n)] (by simp [Act.eval]) (fun w' _=>QhA _ _ _ w')
 simp only [Act.put,zq0,zq1,zq2,zq3,zq4,zq5];refine Qad [24,23,22] (i:=21) (v:=.agg #[.string tw,.string cu,.int .i64 (-n)]) rfl (by kernel_rfl) (by kernel_rfl) (by decide) (by kernel_rfl) (by kernel_rfl) (by kernel_rfl) (by kernel_rfl) (fun _ _ _ h=>h) ?_ (Below.refl _ _) ?_
 ·exact QaP (by rfl) 44 _ (by rfl) #[(0,.string tw),(1,.string cu),(2,.int .i64 (-n))] (by simp [Act.eval]) (fun w' _=>QhA _ _ _ w')
 simp only [Act.put,zq0,zq1,zq2,zq3,zq4,zq5];refine L_two (i:=4) (j:=22) (by kernel_rfl) ?_ ?_
 ·skip
  refine wpOp_step rfl ?_;intro K hK;rw [if_pos (by rfl)]
  have hK':Shut (∀ a w,_→K a w):=hK;clear hK;go_wp2_with fail;refine (HIt.out _ (Below.refl _ _)).mono ?_;rintro e w1 ⟨rfl,hb1⟩;refine hK'.out _ _ ?_;clear hK' K;refine ⟨hb1,?_⟩
  try simp only [Act.put,zq0,zq1,zq2,zq3,zq4,zq5]
  refine Qad [24,23] (i:=5) (v:=.string RF) rfl (by kernel_rfl) (by kernel_rfl) (by decide) (by kernel_rfl) (by kernel_rfl) (by kernel_rfl) (by kernel_rfl) (fun _ _ _ h=>h) (Or.inl ⟨by rfl,fun w' hw'=>by clear hw';rw [HRf2.out];go_simp;omega⟩) hb1 ?_
  simp only [Act.put,zq0,zq1,zq2,zq3,zq4,zq5];have hs1:=(HZ.out w1 hb1).2.2;have hb2:Below (B+2) U (w1.alloc (.cells #[.string fr,.string cu,.int .i64 n,.string tw,.string cu,.int .i64 (-n)] 44)):=hb1.alloc hs1 _;have hl2:Qab (w1.alloc (.cells #[.string fr,.string cu,.int .i64 n,.string tw,.string cu,.int .i64 (-n)] 44)) (B+2) (.slice (some ⟨w1.heap.size,0,none⟩) 2 2) LN:=by rw [HLn.out];exact lnRow_two w1 (B+2) ⟨fr,cu,n⟩ ⟨tw,cu,-n⟩ hs1
  obtain ⟨W2,hW2⟩:∃ W2,w1.alloc (.cells #[.string fr,.string cu,.int .i64 n,.string tw,.string cu,.int .i64 (-n)] 44)=W2:=⟨_,rfl⟩;rw [hW2] at hb2 hl2;obtain ⟨A2,hA2⟩:∃ A2,w1.heap.size=A2:=⟨_,rfl⟩;rw [hA2] at hl2 hs1;have HW2:Hid (w1.alloc (.cells #[.string fr,.string cu,.int .i64 n,.string tw,.string cu,.int .i64 (-n)] 44)=W2):=hW2;have HA2:Hid (w1.heap.size=A2):=hA2;have HT2:Hid (Below (B+2) U W2):=hb2
  have HL2:Hid (Qab W2 (B+2) (.slice (some ⟨A2,0,none⟩) 2 2) LN):=hl2;clear hb1 hW2 hA2 hb2 hl2;refine L_one (i:=22) (by kernel_rfl) ?_
  refine wpOp_step rfl ?_;intro K hK;rw [if_pos (by rfl)]
  have hK':Shut (∀ a w,_→K a w):=hK;clear hK;go_wp2_with fail;rw [HW2.out,HA2.out];clear HW2 HA2;refine hK'.out _ _ ?_;clear hK' K;refine ⟨HT2.out,?_⟩
  try simp only [Act.put,zq0,zq1,zq2,zq3,zq4,zq5]
  refine Qad [24] (i:=23) (v:=.agg #[.string RF,.int .i64 en,.int .i64 pe,.slice (some ⟨A2,0,none⟩) 2 2]) rfl (by kernel_rfl) (by kernel_rfl) (by decide) (by kernel_rfl) (by kernel_rfl) (by kernel_rfl) (by kernel_rfl) (fun _ _ _ h=>h) ?_ HT2.out ?_
  ·exact QaP (by rfl) 38 _ (by rfl) #[(0,.string RF),(1,.int .i64 en),(2,.int .i64 pe),(3,.slice (some ⟨A2,0,none⟩) 2 2)] (by simp [Act.eval]) (fun w' _=>Qim _ _ _ _ _ _ w')
  simp only [Act.put,zq0,zq1,zq2,zq3,zq4,zq5];have z:=(HZ.out W2 HT2.out).1;have d0:=z.c0;have d1:=z.c1;have d2:=z.c2;have d3:=z.c3;have f0:=z.fz 0;have f1:=z.fz 1;have f2:=z.fz 2;have f3:=z.fz 3;have HE:Hid _:=HEnd.out W2 A2 HT2.out hs1 HL2.out;clear z HT2 HL2 HEnd HZ HP HIt HIt2 HLn HRf2;refine L_go (by kernel_rfl) (by kernel_rfl) ?_
  refine wpOp_step rfl ?_;intro K hK;rw [if_pos (by rfl)]
  have hK':Shut (∀ a w,_→K a w):=hK;clear hK;go_wp2_with fail;refine hK'.out _ _ ?_;clear hK' K;refine wpAny_done (by kernel_rfl) ?_ _
  go_wp2;exact bodyPost_ret (v:=.agg #[.string RF,.int .i64 en,.int .i64 pe,.slice (some ⟨A2,0,none⟩) 2 2]) (by simp [results,Tryz.results115,go_sem,d0,d1,d2,d3]) rfl ⟨_,_,rfl,HE.out.1,HE.out.2⟩
 ·have hs1:U.heap.size=B+2:=HsU.out;have hb2:Below (B+2) U (U.alloc (.cells #[.string fr,.string cu,.int .i64 n,.string tw,.string cu,.int .i64 (-n)] 44)):=(Below.refl _ _).alloc (by rw [hs1];exact Nat.le_refl _) _
  have hl2:Qab (U.alloc (.cells #[.string fr,.string cu,.int .i64 n,.string tw,.string cu,.int .i64 (-n)] 44)) (B+2) (.slice (some ⟨U.heap.size,0,none⟩) 2 2) LN:=by rw [HLn.out];exact lnRow_two U (B+2) ⟨fr,cu,n⟩ ⟨tw,cu,-n⟩ (by rw [hs1];exact Nat.le_refl _)
  obtain ⟨W1,hW1⟩:∃ W1,U.alloc (.cells #[.string fr,.string cu,.int .i64 n,.string tw,.string cu,.int .i64 (-n)] 44)=W1:=⟨_,rfl⟩;rw [hW1] at hb2 hl2;obtain ⟨A2,hA2⟩:∃ A2,U.heap.size=A2:=⟨_,rfl⟩;rw [hA2] at hl2 hs1;have HW1:Hid (U.alloc (.cells #[.string fr,.string cu,.int .i64 n,.string tw,.string cu,.int .i64 (-n)] 44)=W1):=hW1;have HA2:Hid (U.heap.size=A2):=hA2;have HT1:Hid (Below (B+2) U W1):=hb2
  have HL1:Hid (Qab W1 (B+2) (.slice (some ⟨A2,0,none⟩) 2 2) LN):=hl2;replace hs1:B+2≤A2:=by omega
  clear hW1 hA2 hb2 hl2;refine wpOp_step rfl ?_;intro K hK;rw [if_pos (by rfl)]
  have hK':Shut (∀ a w,_→K a w):=hK;clear hK;go_wp2_with fail;rw [HW1.out,HA2.out];clear HW1 HA2;refine hK'.out _ _ ?_;clear hK' K;refine ⟨HT1.out,?_⟩
  try simp only [Act.put,zq0,zq1,zq2,zq3,zq4,zq5]
  refine L_one (i:=4) (by kernel_rfl) ?_
  refine wpOp_step rfl ?_;intro K hK;rw [if_pos (by rfl)]
  have hK':Shut (∀ a w,_→K a w):=hK;clear hK;go_wp2_with fail;refine (HIt2.out _ HT1.out).mono ?_;rintro e W2 ⟨rfl,hb2,hbw⟩;have HT2:Hid (Below (B+2) U W2):=hb2;refine hK'.out _ _ ?_;clear hK' K;refine ⟨hb2,?_⟩
  try simp only [Act.put,zq0,zq1,zq2,zq3,zq4,zq5]
  refine Qad [24,23] (i:=5) (v:=.string RF) rfl (by kernel_rfl) (by kernel_rfl) (by decide) (by kernel_rfl) (by kernel_rfl) (by kernel_rfl) (by kernel_rfl) (fun _ _ _ h=>h) (Or.inl ⟨by rfl,fun w' hw'=>by clear hw';rw [HRf2.out];go_simp;omega⟩) hb2 ?_
  simp only [Act.put,zq0,zq1,zq2,zq3,zq4,zq5];have hlt1:B+2≤W1.heap.size:=(HZ.out W1 HT1.out).2.2;have HL2:Hid (Qab W2 (B+2) (.slice (some ⟨A2,0,none⟩) 2 2) LN):=HL1.out.below hbw;clear HL1 HT1 hb2 hlt1 hbw;refine Qad [24] (i:=23) (v:=.agg #[.string RF,.int .i64 en,.int .i64 pe,.slice (some ⟨A2,0,none⟩) 2 2]) rfl (by kernel_rfl) (by kernel_rfl) (by decide) (by kernel_rfl) (by kernel_rfl) (by kernel_rfl) (by kernel_rfl) (fun _ _ _ h=>h) ?_ HT2.out ?_
  ·exact QaP (by rfl) 38 _ (by rfl) #[(0,.string RF),(1,.int .i64 en),(2,.int .i64 pe),(3,.slice (some ⟨A2,0,none⟩) 2 2)] (by simp [Act.eval]) (fun w' _=>Qim _ _ _ _ _ _ w')
  simp only [Act.put,zq0,zq1,zq2,zq3,zq4,zq5];have z:=(HZ.out W2 HT2.out).1;have d0:=z.c0;have d1:=z.c1;have d2:=z.c2;have d3:=z.c3;have f0:=z.fz 0;have f1:=z.fz 1;have f2:=z.fz 2;have f3:=z.fz 3;have HE:Hid _:=HEnd.out W2 A2 HT2.out hs1 HL2.out;clear z HT2 HL2 HEnd HZ HP HIt HIt2 HLn HRf2;refine L_go (by kernel_rfl) (by kernel_rfl) ?_
  refine wpOp_step rfl ?_;intro K hK;rw [if_pos (by rfl)]
  have hK':Shut (∀ a w,_→K a w):=hK;clear hK;go_wp2_with fail;refine hK'.out _ _ ?_;clear hK' K;refine wpAny_done (by kernel_rfl) ?_ _
  go_wp2;exact bodyPost_ret (v:=.agg #[.string RF,.int .i64 en,.int .i64 pe,.slice (some ⟨A2,0,none⟩) 2 2]) (by simp [results,Tryz.results115,go_sem,d0,d1,d2,d3]) rfl ⟨_,_,rfl,HE.out.1,HE.out.2⟩
def plE (en pe:Int) (p:Pn):List Ep:=if p.ent=en∧Qcz p.amt p.fst p.per pe≠0 then [⟨QiC p.ref pe,p.ent,pe,QcJ p (Qcz p.amt p.fst p.per pe)⟩] else []
def Qig (en pe:Int) (l:List Pn) (k:Nat):List Ep:=(List.range k).flatMap fun i=>plE en pe (l.getD i pn0)
theorem plTo_next (en pe:Int) (l:List Pn) (k:Nat):Qig en pe l (k+1)=Qig en pe l k++plE en pe (l.getD k pn0):=by
 unfold Qig;rw [List.range_succ,List.flatMap_append];simp
def QbM (c:List Ac) (l:List Pn) (en pe:Int):Int:=if QaW c l≠0 then QaW c l else if (Qak en 12 && Qak pe 120)=false then 1 else 0
def QgH (c:List Ac) (l:List Pn) (en pe:Int) (w:World) (e:Ending) (w':World):Prop:=
 Below w.heap.size w w'∧(QbM c l en pe≠0→e=.returned (.tuple #[.slice none 0 0,chE (QbM c l en pe)])) ∧
  (QbM c l en pe=0→∃ v L,e=.returned (.tuple #[v,.nilIface])∧Qbp w' w.heap.size v L∧L.map Je.ep=Qig en pe l l.length∧L.length≤20)
theorem pnBad_ok {c:List Ac} {l:List Pn} {k:Nat} (h:Qdr c l k=0):QcU (l.take k) (l.getD k pn0).ref=0∧Qak (l.getD k pn0).ent 12=true∧QbG (l.getD k pn0).amt (l.getD k pn0).fst (l.getD k pn0).per=true∧Qdz c (l.getD k pn0)=0∧Qam (l.getD k pn0).cur=true:=by
 unfold Qdr at h;split at h
 ·contradiction
 ·rename_i h1;split at h
  ·omega
  ·rename_i h2;split at h
   ·contradiction
   ·rename_i h3;split at h
    ·omega
    ·rename_i h4;have h2':Qak (l.getD k pn0).ent 12=true∧QbG (l.getD k pn0).amt (l.getD k pn0).fst (l.getD k pn0).per=true:=by simpa using h2
     exact ⟨Decidable.of_not_not h1,h2'.1,h2'.2,Decidable.of_not_not h3,by simpa using h4⟩
theorem Qdb {c:List Ac} {l:List Pn} (h:QaW c l=0):Qat c=0∧l.length≤20∧∀ k,k<l.length→Qdr c l k=0:=by
 unfold QaW at h;split at h
 ·contradiction
 ·rename_i h1;split at h
  ·omega
  ·exact ⟨Decidable.of_not_not h1,by omega,QaK h⟩
theorem refBad_ok {l:List Pn} {r:ByteArray} (h:QcU l r=0):r.size≤8:=by
 unfold QcU at h;split at h
 ·omega
 ·rename_i h1
  have:Qc7 r=true:=by simpa using h1
  exact (isPRef_iff.1 this).2.1
theorem pn_part_bd {am fs pr pe:Int} (h:QbG am fs pr=true) (hp:Qak pe 120=true):-9223372036854775807≤Qcz am fs pr pe∧Qcz am fs pr pe≤9223372036854775807:=by
 obtain ⟨_,ha,hq,hf⟩:=Qe1.1 h;have hp':=QcW.1 hp;unfold Qcz
 split
 ·omega
 ·have m1:=pn_mul ha (k:=pe - fs+1) (by omega) (by omega)
  have m0:=pn_mul ha (k:=pe - fs) (by omega) (by omega)
  have q1:=pn_tdiv m1 hq.1;have q0:=pn_tdiv m0 hq.1;omega
set_option maxHeartbeats 8000000 in
theorem plEntries_any (a a2:Option Addr) (cap cap2:Nat) (c:List Ac) (l:List Pn) (en pe:Int) (w:World) (h:QbJ w a c cap) (hl:Qe6 w a2 l cap2) (hll:l.length≤9223372036854775807) (ht:Qgj w) :
  Calls prog 74 #[.slice a c.length cap,.slice a2 l.length cap2,.int .i64 en,.int .i64 pe] w (QgH c l en pe w):=by
 have HErr:Hid (∀ z W,z≠0→QbM c l en pe=z→Below w.heap.size w W→QgH c l en pe w (.returned (.tuple #[.slice none 0 0,.iface 68 (.int .i64 z)])) W):=fun z W h0 h1 h2=>by
  refine ⟨h2,fun _=>by rw [h1,Qae h0],fun e=>absurd (h1.symm.trans e) h0⟩
 have HOk:Hid (∀ v L W,QbM c l en pe=0→Below w.heap.size w W→Qbp W w.heap.size v L→L.map Je.ep=Qig en pe l l.length→L.length≤20→QgH c l en pe w (.returned (.tuple #[v,.nilIface])) W):=fun v L W h1 h2 h3 h4 h5=>
  ⟨h2,fun h0=>absurd h1 h0,fun _=>⟨v,L,rfl,h3,h4,h5⟩⟩
 have HC:Hid (Calls _ _ _ _ _):=Qh0 a a2 cap cap2 c l w h hl hll;by_cases c1:QaW c l≠0
 ·have e1:QbM c l en pe=QaW c l:=by unfold QbM;rw [if_pos c1]
  have HE:Hid (∀ W,Below w.heap.size w W→QgH c l en pe w (.returned (.tuple #[.slice none 0 0,.iface 68 (.int .i64 (QaW c l))])) W):=fun W hW=>HErr.out _ W c1 e1 hW
  rw [Qae c1] at HC;clear h hl c1 e1 HErr HOk;generalize QaW c l=z at *
  go_enter func74,ntmps74
  go_wp2_with (go_at_call 37;refine HC.out.mono ?_;rintro e w1 ⟨rfl,hb1⟩);go_ret2;exact HE.out _ hb1
 have c1':=Decidable.of_not_not c1;rw [c1',Qaj] at HC;have HU1:Hid (∀ W,Calls prog 84 #[.int .i64 en] W fun e w'=>e=.returned (.bool (Qak en 12))∧w'=W):=fun W=>Qbm en W
 have HU2:Hid (∀ W,Calls prog 31 #[.int .i64 pe] W fun e w'=>e=.returned (.bool (Qak pe 120))∧w'=W):=fun W=>QaM pe W
 by_cases c3:(Qak en 12 && Qak pe 120)=false
 ·have e1:QbM c l en pe=1:=by unfold QbM;rw [if_neg c1,if_pos c3]
  have HE:Hid (∀ W,Below w.heap.size w W→QgH c l en pe w (.returned (.tuple #[.slice none 0 0,.iface 68 (.int .i64 1)])) W):=fun W hW=>HErr.out _ W (by decide) e1 hW
  clear h hl c1 c1' e1 HErr HOk;cases u1:Qak en 12
  ·rw [u1] at HU1;clear c3 u1;go_enter func74,ntmps74
   go_wp2_with (first | (go_at_call 37;refine HC.out.mono ?_;rintro e w1 ⟨rfl,hb1⟩) | (go_at_call 84;refine (HU1.out _).mono ?_;rintro e w' ⟨rfl,rfl⟩));go_ret2;exact HE.out _ hb1
  ·have u2:Qak pe 120=false:=by rw [u1] at c3;simpa using c3
   rw [u1] at HU1;rw [u2] at HU2;clear c3 u1 u2;go_enter func74,ntmps74
   go_wp2_with fail;refine HC.out.mono ?_;rintro e w1 ⟨rfl,hb1⟩;go_wp2_with fail;refine (HU1.out _).mono ?_;rintro e w' ⟨rfl,hw⟩;rw [hw];clear hw w';go_wp2_with fail;refine (HU2.out _).mono ?_;rintro e w' ⟨rfl,hw⟩;rw [hw];clear hw w';go_wp2;go_ret2;exact HE.out _ hb1
 have c3':Qak en 12=true∧Qak pe 120=true:=by simpa using c3
 have HB0:Hid (QbM c l en pe=0):=by unfold QbM Hid;rw [if_neg c1,if_neg c3]
 rw [c3'.1] at HU1;rw [c3'.2] at HU2;obtain ⟨p1,p2,p3⟩:=Qdb c1';have HPo:Hid (∀ k,k<l.length→Qdr c l k=0):=p3;have HPs:Hid (Qe6 w a2 l cap2):=hl;have HTb:Hid (Qgj w):=ht;have HPe:Hid (Qak pe 120=true∧1≤pe∧pe≤120):=⟨c3'.2,(QcW.1 c3'.2).1,(QcW.1 c3'.2).2⟩;have i2:(l.length:Int)≤20:=by omega
 clear h hl ht c1 c1' c3 c3' p1 p3;obtain ⟨i0,hi,hz0,hz1,hz2⟩:=info_parts Qc0;go_enter func74,ntmps74
 go_wp2_with fail;refine HC.out.mono ?_;rintro e w2 ⟨rfl,hb2⟩;clear HC;go_wp2_with fail;refine (HU1.out _).mono ?_;rintro e w' ⟨rfl,hw⟩;rw [hw];clear hw w' HU1;go_wp2_with fail;refine (HU2.out _).mono ?_;rintro e w' ⟨rfl,hw⟩;rw [hw];clear hw w' HU2;have HB2:Hid (Below w.heap.size w w2):=hb2;clear hb2;go_wp2;go_loopw [11,32] (fun v i wr=>∃ (k:Nat) (L:List Je),k≤l.length∧i=.int .i64 k∧Hid (Qbp wr w.heap.size v L∧L.map Je.ep=Qig en pe l k∧L.length≤k)∧Hid (Below w.heap.size w wr)) (fun _ i _=>l.length - (RowKit.intOf i).toNat)
 case atStart=>exact ⟨0,[],Nat.zero_le _,rfl,⟨Qbp.nil _ _,rfl,Nat.le_refl _⟩,HB2⟩
 case round=>
  obtain ⟨k,L,hk,rfl,HM,HB⟩:=hrel;obtain ⟨av,cv,ev,_⟩:=HM.out.1.isJs;subst ev;by_cases hkn:k<l.length
  ·obtain ⟨bb,off,e,hblt,hc⟩:=((HPs.out).below HB.out).at hkn;subst e;obtain ⟨q1,q2,q3,q4,q5⟩:=pnBad_ok (HPo.out k hkn);have q6:=refBad_ok q1;have q7:=pn_part_bd q3 HPe.out.1;obtain ⟨wa,hwa⟩:∃ wa,wr.alloc (.cells (l.getD k pn0).cells 93)=wa:=⟨_,rfl⟩;have b11:Below wr.heap.size wr wa:=by rw [← hwa];exact (Below.refl _ wr).alloc (Nat.le_refl _) _
   have hsa:wr.heap.size<wa.heap.size:=by rw [← hwa];simp
   have hx:Qio wa wr.heap.size 0 (l.getD k pn0):=by rw [← hwa];exact Qio.new wr (l.getD k pn0) 93
   have B1:Below w.heap.size w wa:=HB.out.trans (b11.mono HB.out.size);have HKeep:Hid (∀ W,Below wa.heap.size wa W→Below w.heap.size w W∧Below wr.heap.size wr W∧Qio W wr.heap.size 0 (l.getD k pn0)):=fun W hW=>
    ⟨B1.trans (hW.mono B1.size),b11.trans (hW.mono b11.size),hx.below hW hsa⟩
   have HPt:Hid (Calls prog 114 #[.agg (l.getD k pn0).cells,.int .i64 pe] wa fun e w'=>e=.returned (.int .i64 (Qcz (l.getD k pn0).amt (l.getD k pn0).fst (l.getD k pn0).per pe))∧Below wa.heap.size wa w'):=plPart_any _ pe wa q3 HPe.out.1
   have HAc:Hid (∀ W,Below w.heap.size w W→Calls prog 115 #[.agg (l.getD k pn0).cells,.int .i64 pe,.int .i64 (Qcz (l.getD k pn0).amt (l.getD k pn0).fst (l.getD k pn0).per pe)] W fun e w'=>∃ adr cap,e=.returned (.agg #[.string (QiC (l.getD k pn0).ref pe),.int .i64 (l.getD k pn0).ent,.int .i64 pe,.slice adr 2 cap])∧Qab w' W.heap.size (.slice adr 2 cap) (QcJ (l.getD k pn0) (Qcz (l.getD k pn0).amt (l.getD k pn0).fst (l.getD k pn0).per pe))∧Below W.heap.size W w'):=fun W hW=>accrued_any _ pe _ W (HTb.out.below hW) HPe.out.2.1 HPe.out.2.2 q6 q7
   have HNx:Hid (Qig en pe l (k+1)=Qig en pe l k++plE en pe (l.getD k pn0)):=plTo_next en pe l k;have HPE:Hid (plE en pe (l.getD k pn0)=if (l.getD k pn0).ent=en∧Qcz (l.getD k pn0).amt (l.getD k pn0).fst (l.getD k pn0).per pe≠0 then [⟨QiC (l.getD k pn0).ref pe,(l.getD k pn0).ent,pe,QcJ (l.getD k pn0) (Qcz (l.getD k pn0).amt (l.getD k pn0).fst (l.getD k pn0).per pe)⟩] else []):=rfl
   have HLen:Hid ((QcJ (l.getD k pn0) (Qcz (l.getD k pn0).amt (l.getD k pn0).fst (l.getD k pn0).per pe)).length=2):=rfl;have HWa:Hid (wr.alloc (.cells (l.getD k pn0).cells 93)=wa):=hwa;clear hwa q1 q2 q3 q4 q5 q6 q7 B1 b11 hsa;generalize QcJ (l.getD k pn0) (Qcz (l.getD k pn0).amt (l.getD k pn0).fst (l.getD k pn0).per pe)=gl at *
   generalize Qcz (l.getD k pn0).amt (l.getD k pn0).fst (l.getD k pn0).per pe=pn at *
   generalize QiC (l.getD k pn0).ref pe=rf at *
   generalize plE en pe (l.getD k pn0)=pE at *
   generalize l.getD k pn0=p at *
   obtain ⟨ref,ent,fr,tw,cu,am,fs,pr⟩:=p;obtain ⟨d0,d1,d2,d3,d4,d5,d6,d7⟩:=hc;obtain ⟨f0,f1,f2,f3,f4,f5,f6,f7⟩:=hx;simp only [Pn.cells,Nat.zero_add] at d0 d1 d2 d3 d4 d5 d6 d7 f0 f1 f2 f3 f4 f5 f6 f7 HWa HKeep HPt HAc HPE;have j0:(0:Int)≤k:=by omega
   have j1:(k:Int)<l.length:=by omega
   go_upto_region 10 with fail
   rw [HWa.out];clear HWa d0 d1 d2 d3 d4 d5 d6 d7;go_wp2_with fail;refine HPt.out.mono ?_;rintro e w3 ⟨rfl,hb3⟩;clear HPt f0 f1 f2 f3 f4 f5 f6 f7;obtain ⟨k1,k2,⟨f0,f1,f2,f3,f4,f5,f6,f7⟩⟩:=HKeep.out w3 hb3;simp only [Nat.zero_add] at f0 f1 f2 f3 f4 f5 f6 f7;have HK1:Hid (Below w.heap.size w w3):=k1;have HK2:Hid (Below wr.heap.size wr w3):=k2;clear HKeep hb3 k1 k2;by_cases g0:ent=en∧pn≠0
   ·obtain ⟨g1,g2⟩:=g0;have g1':(ent == en)=true:=by simp [g1]
    have g2':(pn != 0)=true:=by simpa using g2
    have HP2:Hid (Qig en pe l (k+1)=Qig en pe l k++[⟨rf,ent,pe,gl⟩]):=by rw [HNx.out,HPE.out,if_pos ⟨g1,g2⟩];exact rfl
    have HA3:Hid (Calls _ _ _ _ _):=HAc.out w3 HK1.out;clear HAc HPE HNx HOk HErr;subst g1;go_wp2_with fail;refine HA3.out.mono ?_;rintro e w4 ⟨a4,c4',rfl,hr4,hb4⟩;have HR4:Hid (Qab w4 w3.heap.size (.slice a4 gl.length c4') gl):=by rw [HLen.out];exact hr4
    have HB4:Hid (Below w3.heap.size w3 w4):=hb4;have HAdd:Hid (∀ v' w6,World.ownsRow w6 w.heap.size 38 4 v' (L.length+1) (QaR L++(Je.mk rf ent pe a4 c4' gl).cells.toList)→(w4.alloc (.cells #[.string rf,.int .i64 ent,.int .i64 pe,.slice a4 2 c4'] 38)).grownBy w6 (Value.slice av L.length cv).ownBlock→(Qbp w6 w.heap.size v' (L++[Je.mk rf ent pe a4 c4' gl])∧(L++[Je.mk rf ent pe a4 c4' gl]).map Je.ep=Qig ent pe l (k+1)∧(L++[Je.mk rf ent pe a4 c4' gl]).length≤k+1)∧Below w.heap.size w w6):=fun v' w6 h1 h2=>by
     obtain ⟨m1,m2,m3⟩:=HM.out;have z1:=HK1.out.trans (HB4.out.mono HK1.out.size);have z2:=z1.alloc z1.size (.cells #[.string rf,.int .i64 ent,.int .i64 pe,.slice a4 2 c4'] 38);have z3:Below w4.heap.size w4 (w4.alloc (.cells #[.string rf,.int .i64 ent,.int .i64 pe,.slice a4 2 c4'] 38)):=(Below.refl _ w4).alloc (Nat.le_refl _) _;have m4:=((m1.below HK2.out).below HB4.out).below z3;refine ⟨⟨m4.add (x:=Je.mk rf ent pe a4 c4' gl) ((HR4.out.below z3).mono HK1.out.size) h1 h2,?_,?_⟩,z2.grown h2 z2.size fun j e=>m1.row.own j e⟩
     ·rw [List.map_append,m2,HP2.out];rfl
     ·rw [List.length_append];simp;exact m3
    have HRow:Hid (World.ownsRow (w4.alloc (.cells #[.string rf,.int .i64 ent,.int .i64 pe,.slice a4 2 c4'] 38)) w.heap.size 38 4 (.slice av L.length cv) L.length (QaR L)):=by
     have m4:=(HM.out.1.below HK2.out).below HB4.out;exact World.ownsRow.alloc m4.row _
    have s2:Hid (L.length+1≤maxLen∧(L.length+1)*56≤140737488355328):=by
     have:=HM.out.2.2
     unfold Hid maxLen;omega
    have s4:Hid (w.heap.size≤(w4.alloc (.cells #[.string rf,.int .i64 ent,.int .i64 pe,.slice a4 2 c4'] 38)).heap.size):=by
     have z1:=HK1.out.size;have z2:=HB4.out.size;unfold Hid;simp;omega
    have HCl:Hid ((Je.mk rf ent pe a4 c4' gl).cells.toList=[.string rf,.int .i64 ent,.int .i64 pe,.slice a4 2 c4']):=by unfold Je.cells Hid;simp only [HLen.out]
    have HOne:Hid (∀ u∈([.string rf,.int .i64 ent,.int .i64 pe,.slice a4 2 c4']:List Value),u.oneCell'=true):=by rw [← HCl.out];exact Qgi _
    rw [HCl.out] at HAdd;clear HA3 hr4 hb4 HM f0 f1 f2 f3 f4 f5 f6 f7 HCl;go_wp2_with (at_builtin;refine wpList_append_own _ rfl _ _ 27 rfl w.heap.size 38 i0 (.agg #[.string ByteArray.empty,.int .i64 0,.int .i64 0,.slice none 0 0]) 4 56 underlying27 hi hz0 hz1 hz2 rfl (by decide) _ _ _ rfl HRow.out ⟨w4.heap.size,0,none⟩ 1 1 [.string rf,.int .i64 ent,.int .i64 pe,.slice a4 2 c4'] rfl rfl (World.news_of_block (World.alloc_heap_new w4 _)) HOne.out s2.out.1 s2.out.2 s4.out ?_)
    intro v' w6 hown' hgrow _;obtain ⟨hm6,hb6⟩:=HAdd.out v' w6 hown' hgrow;have HM6:Hid _:=hm6;have HB6:Hid (Below w.heap.size w w6):=hb6;clear hown' hgrow hm6 hb6 HAdd HRow;go_wp2;go_roundw
    case rel=>exact ⟨k+1,_,by omega,by go_num,HM6,HB6⟩
    case measure=>simp [RowKit.intOf];omega
   ·have HM2:Hid (Qbp w3 w.heap.size (.slice av L.length cv) L∧L.map Je.ep=Qig en pe l (k+1)∧L.length≤k+1):=by
     obtain ⟨m1,m2,m3⟩:=HM.out;refine ⟨m1.below HK2.out,?_,by omega⟩
     rw [HNx.out,HPE.out,if_neg g0,List.append_nil,m2]
    clear HAc HPE HNx HOk HErr HM;by_cases g1:ent=en
    ·have g2:pn=0:=Classical.byContradiction fun h=>g0 ⟨g1,h⟩
     have g1':(ent == en)=true:=by simp [g1]
     clear g0;subst g1;subst g2;go_wp2;go_roundw
     case rel=>exact ⟨k+1,L,by omega,by go_num,HM2,HK1⟩
     case measure=>simp [RowKit.intOf];omega
    ·have g1':(ent == en)=false:=by rw [beq_eq_false_iff_ne];exact g1
     clear g0;go_wp2;go_roundw
     case rel=>exact ⟨k+1,L,by omega,by go_num,HM2,HK1⟩
     case measure=>simp [RowKit.intOf];omega
  ·have ek:k=l.length:=by omega
   subst ek;obtain ⟨m1,m2,m3⟩:=HM.out;have HE:Hid (QgH c l en pe w (.returned (.tuple #[.slice av L.length cv,.nilIface])) wr):=HOk.out _ L wr HB0.out HB.out m1 m2 (by omega)
   clear m1 m2 m3 HM HErr HOk HPo HPs;go_wp2;go_ret2;exact HE.out
end
section
open Go.RowKit Go.Lib Go.Proofs.Tryz
def Qbj (w:World) (g:Nat) (r:List Int):Prop:=w.heap[g]? = some (.cells (r.map (Value.int .i64)).toArray 3 (0,0))
theorem Qbj.cell {w:World} {g:Nat} {r:List Int} (h:Qbj w g r) {i:Nat} (hi:i<r.length):w.cell? ⟨g,i,none⟩=some (.int .i64 (r.getD i 0)):=by
 unfold Qbj at h;simp [World.cell?,h,hi]
theorem Qbj.frozen {w:World} {g:Nat} {r:List Int} (h:Qbj w g r) (i:Nat):w.frozen? ⟨g,i,none⟩=false:=by
 unfold Qbj at h;simp [World.frozen?,h]
theorem Qbj.set {w:World} {g:Nat} {r:List Int} (h:Qbj w g r) (i:Nat) (x:Int):Qbj (w.setCell ⟨g,i,none⟩ (.int .i64 x)) g (r.set i x):=by
 unfold Qbj at *
 rw [setCell_eq_setRow w g i _ 3 (0,0) _ h,setRow_heap w g _ _ 3 (0,0) h];simp [List.map_set]
structure But (g:Nat) (V W:World):Prop where
 os:W.os=V.os
 tape:W.tape=V.tape
 output:W.output=V.output
 size:V.heap.size=W.heap.size
 block:∀ b,b≠g→W.heap[b]? = V.heap[b]?
theorem But.refl (g:Nat) (V:World):But g V V:=⟨rfl,rfl,rfl,rfl,fun _ _=>rfl⟩
theorem But.trans {g:Nat} {A B C:World} (h:But g A B) (k:But g B C):But g A C:=⟨k.os.trans h.os,k.tape.trans h.tape,k.output.trans h.output,h.size.trans k.size,fun b hb=>(k.block b hb).trans (h.block b hb)⟩
theorem But.drew {g:Nat} {A B:World} (h:But g A B):But g A B.drew:=h.trans ⟨rfl,rfl,rfl,rfl,fun _ _=>rfl⟩
theorem But.set {g:Nat} {A B:World} (h:But g A B) (o:Nat) (v:Value):But g A (B.setCell ⟨g,o,none⟩ v):=
 h.trans ⟨rfl,rfl,rfl,by simp [World.setCell],fun b hb=>Below.heap_setCell _ _ _ _ hb⟩
theorem Qd1 (w:World) (n:Nat):Qbj (w.alloc (.cells (madeCells #[.int .i64 0] n) 3)) w.heap.size (List.replicate n 0):=by
 unfold Qbj;rw [show (w.alloc (.cells (madeCells #[.int .i64 0] n) 3)).heap[w.heap.size]? = some (.cells (madeCells #[.int .i64 0] n) 3 (0,0)) by unfold World.alloc;simp only [Array.getElem?_push_size]]
 congr 2;apply Array.ext
 ·simp [madeCells]
 ·intro i h1 h2;simp [madeCells,Nat.mod_one]
theorem Qbj.ltS {w:World} {g:Nat} {r:List Int} (h:Qbj w g r):g<w.heap.size:=(Array.getElem?_eq_some_iff.1 h).1
theorem Qbj.belowS {w w':World} {g n:Nat} {r:List Int} (h:Qbj w g r) (hb:Below n w w') (hg:g<n):Qbj w' g r:=(hb.block g hg).trans h
theorem Qbj.other {w:World} {g g':Nat} {r:List Int} (h:Qbj w g r) (hn:g≠g') (i:Nat) (v:Value):Qbj (w.setCell ⟨g',i,none⟩ v) g r:=(Below.heap_setCell _ _ _ _ hn).trans h
structure IsW (w:World) (a:Option Addr) (l:List Int) (cap:Nat):Prop where
 cap:l.length≤cap
 lies:l=[]∨∃ b off,a=some ⟨b,off,none⟩∧b<w.heap.size∧∀ k,k<l.length→w.cell? ⟨b,off+k,none⟩=some (.int .i64 (l.getD k 0))
theorem IsW.below {w w':World} {a:Option Addr} {l:List Int} {cap:Nat} (h:IsW w a l cap) (hb:Below w.heap.size w w'):IsW w' a l cap:=by
 refine ⟨h.cap,?_⟩;rcases h.lies with h | ⟨b,off,e,hlt,hc⟩
 ·exact .inl h
 ·exact .inr ⟨b,off,e,by have:=hb.size;omega,fun k hk=>(hb.cell (p:=⟨b,off+k,none⟩) hlt).trans (hc k hk)⟩
theorem IsW.at {w:World} {a:Option Addr} {l:List Int} {cap:Nat} (h:IsW w a l cap) {k:Nat} (hk:k<l.length):∃ b off,a=some ⟨b,off,none⟩∧b<w.heap.size∧w.cell? ⟨b,off+k,none⟩=some (.int .i64 (l.getD k 0)):=by
 rcases h.lies with h | ⟨b,off,e,hlt,hc⟩
 ·subst h;simp at hk
 ·exact ⟨b,off,e,hlt,hc k hk⟩
end
section
open Go.RowKit Go.Lib Go.Proofs.Tryz
end
section
open Go.RowKit Go.Lib Go.Proofs.Tryz
def cmpN (x y:Int):Int:=if x<y then -1 else if y<x then 1 else 0
theorem isNaN64_any (x:Int) (w:World):Calls prog 241 #[.int .u64 x] w fun e w'=>e=.returned (.bool false)∧w'=w:=by
 go_enter func241,ntmps241
 go_wp2;go_ret;exact ⟨rfl,rfl⟩
theorem compare64_any (x y:Int) (w:World):Calls prog 211 #[.int .u64 x,.int .u64 y] w fun e w'=>e=.returned (.int .i64 (cmpN x y))∧w'=w:=by
 have HN:Hid (∀ z,Calls _ _ _ _ _):=fun z=>isNaN64_any z w
 unfold cmpN;by_cases h1:x<y
 ·rw [if_pos h1];go_enter func211,ntmps211
  go_wp2_with fail;refine (HN.out x).mono ?_;rintro e w' ⟨rfl,hw⟩;rw [hw];clear hw w';go_wp2_with fail;refine (HN.out y).mono ?_;rintro e w' ⟨rfl,hw⟩;rw [hw];clear hw w';go_wp2;go_ret;exact ⟨rfl,rfl⟩
 ·rw [if_neg h1];by_cases h2:y<x
  ·rw [if_pos h2];go_enter func211,ntmps211
   go_wp2_with fail;refine (HN.out x).mono ?_;rintro e w' ⟨rfl,hw⟩;rw [hw];clear hw w';go_wp2_with fail;refine (HN.out y).mono ?_;rintro e w' ⟨rfl,hw⟩;rw [hw];clear hw w';go_wp2;go_ret;exact ⟨rfl,rfl⟩
  ·rw [if_neg h2];go_enter func211,ntmps211
   go_wp2_with fail;refine (HN.out x).mono ?_;rintro e w' ⟨rfl,hw⟩;rw [hw];clear hw w';go_wp2_with fail;refine (HN.out y).mono ?_;rintro e w' ⟨rfl,hw⟩;rw [hw];clear hw w';go_wp2;go_ret;exact ⟨rfl,rfl⟩
structure QiL (w:World) (cb gc:Nat) (cut:List Int) (cap:Nat):Prop where
 box:w.cell? ⟨cb,0,none⟩=some (.slice (some ⟨gc,0,none⟩) cut.length cap)
 row:∀ i,i<cut.length→w.cell? ⟨gc,i,none⟩=some (.int .u64 (cut.getD i 0))
theorem QiL.but {w W:World} {g cb gc:Nat} {cut:List Int} {cap:Nat} (h:QiL w cb gc cut cap) (hb:But g w W) (h1:cb≠g) (h2:gc≠g):QiL W cb gc cut cap:=
 ⟨(World.cell?_of_block (w:=w) (hb.block cb h1)).trans h.box,fun i hi=>(World.cell?_of_block (w:=w) (hb.block gc h2)).trans (h.row i hi)⟩
def cutC (cut:List Int) (i j:Nat):Int:=cmpN (cut.getD j 0) (cut.getD i 0)
theorem byCut1_any (i j cb gc:Nat) (cut:List Int) (cap:Nat) (w:World) (h:QiL w cb gc cut cap) (hi:i<cut.length) (hj:j<cut.length) :
  Calls prog 210 #[.int .i64 (i:Int),.int .i64 (j:Int),.pointer (some ⟨cb,0,none⟩)] w fun e w'=>e=.returned (.int .i64 (cutC cut i j))∧∃ k,w'=w.drewN k:=by
 have c0:=h.box;have c1:=h.row i hi;have c2:=h.row j hj;have i0:(0:Int)≤i:=by omega
 have i1:(i:Int)<cut.length:=by omega
 have j0:(0:Int)≤j:=by omega
 have j1:(j:Int)<cut.length:=by omega
 have HC:∀ W,Calls prog 211 #[.int .u64 (cut.getD j 0),.int .u64 (cut.getD i 0)] W fun e w'=>e=.returned (.int .i64 (cutC cut i j))∧w'=W:=fun W=>compare64_any _ _ W
 generalize cutC cut i j=r at *
 generalize cut.getD i 0=x at *
 generalize cut.getD j 0=y at *
 clear h;go_enter func210,ntmps210
 go_wp2_with fail;go_quiet ((go_at_call 211;exact Calls.quiet_of_same (HC _)))
 rename Nat=>nq
 go_wp2;go_ret;exact ⟨rfl,nq,rfl⟩
end
end Go.Proofs.YtibhgngboljhfaaGreatDoor
