/-
  Part of a proof (see the last text).
-/
import Derived.Test.YtjifbbdkpanagaaGreatDoorZd3
import Derived.Deep.RegionLaw
import Derived.Lib.Slices
set_option linter.unusedVariables false
set_option linter.unusedSimpArgs false
set_option maxRecDepth 100000
namespace Go.Proofs.YtjifbbdkpanagaaGreatDoor
section
open Go.RowKit Go.Lib Go.Proofs.Tryz
end
section
open Go.RowKit Go.Lib Go.Proofs.Tryz
theorem cell_grown {W W':World} {row:Option Nat} {b o:Nat} {v:Value} (h:W.cell? ⟨b,o,none⟩=some v) (hg:W.grownBy W' row) (hr:row≠some b):W'.cell? ⟨b,o,none⟩=some v:=by
 have hlt:b<W.heap.size:=World.block_lt_of_cell? _ _ h;exact (World.cell?_of_block (w:=W) (a:=⟨b,o,none⟩) (hg.block b hlt (fun e=>hr e.symm))).trans h
end
section
open Go.RowKit Go.Lib Go.Proofs.Tryz
theorem Qb6.below {w w':World} {n:Nat} {v:Value} {fs:List ByteArray} (h:Qb6 w n v fs) (hb:Below w.heap.size w w'):Qb6 w' n v fs:=by
 rcases h.2 with ⟨hv,hn⟩ | ⟨g1,c1,cur,hv,hb1,hh,r⟩
 ·exact ⟨h.1,.inl ⟨hv,hn⟩⟩
 ·exact ⟨h.1,.inr ⟨g1,c1,cur,hv,hb1,(hb.block g1 (Array.getElem?_eq_some_iff.1 hh).1).trans hh,r⟩⟩
def Qdv (c:ByteArray) (a:Ac):Bool:=decide (a.par=c)
def Qfz (l:List Ac) (a:Ac):Bool:=decide (QgN (Qdv a.code) l<0)
def lvs (l:List Ac):List ByteArray:=(l.filter (Qfz l)).map Ac.code
theorem leaves1_any (x:Ac) (c:ByteArray) (B:Nat) (w:World) (hB:w.cell? ⟨B,0,none⟩=some (.string c)) (hlt:B<w.heap.size) :
  Calls prog 112 #[.agg x.cells,.pointer (some ⟨B,0,none⟩)] w fun e w'=>e=.returned (.bool (Qdv c x))∧Below w.heap.size w w':=by
 obtain ⟨a0,a1,a2,a3,a4⟩:=x;have b0:Below w.heap.size w (w.alloc (.cells #[.string a0,.string a1,.int .i64 a2,.string a3,.bool a4] 48)):=(Below.refl _ w).alloc (Nat.le_refl _) _;have hB2:(w.alloc (.cells #[.string a0,.string a1,.int .i64 a2,.string a3,.bool a4] 48)).cell? ⟨B,0,none⟩=some (.string c):=(b0.cell (p:=⟨B,0,none⟩) hlt).trans hB;simp only [Ac.cells];by_cases h:a3=c
 ·subst h;have e1:Qdv a3 ⟨a0,a1,a2,a3,a4⟩=true:=by simp [Qdv]
  rw [e1];go_enter func112,ntmps112
  go_wp2;go_ret;exact ⟨rfl,b0⟩
 ·have e1:Qdv c ⟨a0,a1,a2,a3,a4⟩=false:=by simp [Qdv,h]
  have h':=ch_ne h;rw [e1];go_enter func112,ntmps112
  go_wp2;go_ret;exact ⟨by rw [← h'];rfl,b0⟩
theorem leaves1_tells (c:ByteArray) (B:Nat) (w:World) (hB:w.cell? ⟨B,0,none⟩=some (.string c)) (hlt:B<w.heap.size):Tells 112 B (Qdv c) w:=
 ⟨fun args W=>Qf9 func112 (by kernel_rfl) ⟨_,rfl⟩ args W,fun x W hW=>leaves1_any x c B W ((hW.cell (p:=⟨B,0,none⟩) hlt).trans hB) (by have:=hW.size;omega)⟩
theorem QgZ (g B:Nat) (p:Ac→Bool) (a:Option Addr) (cap:Nat) (l:List Ac) (w:World) (hp:Tells g B p w) (hlen:l.length≤1000) (h:Qcm w a l cap) :
  Calls prog 111 #[.slice a l.length cap,.func (.func g) #[] #[.pointer (some ⟨B,0,none⟩)]] w fun e w'=>e=.returned (.bool (decide (0≤QgN p l)))∧Below w.heap.size w w':=by
 have hI:=chIdx_any g B p a cap l w hp hlen h;clear hp h;go_enter func111,ntmps111
 go_wp2_with fail;refine hI.mono ?_;rintro e w' ⟨rfl,hb⟩;go_wp2;go_ret;exact ⟨rfl,hb⟩
theorem lvs_step (l:List Ac) (k:Nat) (h:k<l.length):((l.take (k+1)).filter (Qfz l)).map Ac.code=((l.take k).filter (Qfz l)).map Ac.code++(if Qfz l (l.getD k ac0)=true then [(l.getD k ac0).code] else []):=by
 have e2:l.take (k+1)=l.take k++[l.getD k ac0]:=by
  rw [List.take_succ_eq_append_getElem h,List.getD_eq_getElem?_getD,List.getElem?_eq_getElem h];rfl
 rw [e2,List.filter_append,List.map_append];congr 1;by_cases hh:Qfz l (l.getD k ac0)=true
 ·rw [if_pos hh,List.filter_cons_of_pos hh];rfl
 ·rw [if_neg hh,List.filter_cons_of_neg hh];rfl
theorem leaves_none (a:Option Addr) (cap:Nat) (w:World) :
  Calls prog 72 #[.slice a 0 cap] w fun e w'=>e=.returned (.tuple #[.slice none 0 0,.nilIface])∧Below w.heap.size w w':=by
 have HC:=Qf2 a cap w;rw [QbD] at HC;go_enter func72,ntmps72
 go_wp2_with fail;refine HC.mono ?_;rintro e w1 ⟨rfl,hb1⟩;go_wp2;refine wp_loop_rounds 1 ?_;rw [rounds_succ];go_wp2;go_ret2;exact ⟨rfl,hb1⟩
theorem leaves_bad (a:Option Addr) (cap:Nat) (l:List Ac) (w:World) (h:Qcm w a l cap) (h0:QaC l≠0) :
  Calls prog 72 #[.slice a l.length cap] w fun e w'=>e=.returned (.tuple #[.slice none 0 0,chE (QaC l)])∧Below w.heap.size w w':=by
 have HC:=QhR a cap l w h;rw [QaA h0] at HC ⊢;clear h h0;generalize QaC l=bad at *
 go_enter func72,ntmps72
 go_wp2_with fail;refine HC.mono ?_;rintro e w1 ⟨rfl,hb1⟩;go_wp2;go_ret2;exact ⟨rfl,hb1⟩
set_option maxHeartbeats 4000000 in
theorem leaves_some (b off cap:Nat) (l:List Ac) (w:World) (hb:b<w.heap.size) (hcap:l.length≤cap) (hc:AcsAt w b off l) (h0:QaC l=0) :
  Calls prog 72 #[.slice (some ⟨b,off,none⟩) l.length cap] w fun e w'=>∃ v,e=.returned (.tuple #[v,.nilIface])∧Qb6 w' w.heap.size v (lvs l)∧Below w.heap.size w w':=by
 have hlen:=Qcy h0;have Hlen:(l.length:Int)≤60:=by omega
 have hsl:Qcm w (some ⟨b,off,none⟩) l cap:=⟨hcap,.inr ⟨b,off,rfl,hb,hc⟩⟩;have HC:=QhR (some ⟨b,off,none⟩) cap l w hsl;rw [h0,QbD] at HC;have HF:Hid (∀ B c W,Below w.heap.size w W→W.cell? ⟨B,0,none⟩=some (.string c)→B<W.heap.size→Calls prog 111 #[.slice (some ⟨b,off,none⟩) l.length cap,.func (.func 112) #[] #[.pointer (some ⟨B,0,none⟩)]] W fun e w'=>e=.returned (.bool (decide (0≤QgN (Qdv c) l)))∧Below W.heap.size W w'):=fun B c W hW hB hlt=>
  QgZ _ B (Qdv c) _ cap l W (leaves1_tells c B W hB hlt) (by omega) (hsl.below hW)
 have Hc:Hid (AcsAt w b off l):=hc;clear hc hsl;obtain ⟨i0,hi,hz0,hz1,hz2⟩:=info_parts str_info;go_enter func72,ntmps72
 go_wp2_with fail;refine HC.mono ?_;rintro e w1 ⟨rfl,hb1⟩;go_wp2;go_loopw [5,15] (fun s5 i wr=>∃ k:Nat,k≤l.length∧i=.int .i64 k∧Hid (Qb6 wr w.heap.size s5 (((l.take k).filter (Qfz l)).map Ac.code))∧Below w.heap.size w wr) (fun _ i _=>l.length - (RowKit.intOf i).toNat)
 case atStart=>exact ⟨0,Nat.zero_le _,rfl,World.ownsRow_nil _ _ _ _,hb1⟩
 case round=>
  obtain ⟨k,hk,rfl,R,BW⟩:=hrel;by_cases hlt:k<l.length
  ·have hn:=(Hc.out k hlt).below BW hb;have hst:=lvs_step l k hlt;have hfl:(((l.take k).filter (Qfz l)).map Ac.code).length≤60:=by
    rw [List.length_map]
    have:=List.length_filter_le (Qfz l) (l.take k)
    simp only [List.length_take] at this;omega
   have B2:=BW.alloc BW.size (.cells (l.getD k ac0).cells 48);have hcall:=HF.out wr.heap.size (l.getD k ac0).code (wr.alloc (.cells (l.getD k ac0).cells 48)) B2 (AcAt.new wr _ _).c0 (by simp)
   have hx:=AcAt.new wr (l.getD k ac0) 48;have R1:=World.ownsRow.alloc R.out (.cells (l.getD k ac0).cells 48);have eL:Qfz l (l.getD k ac0)=!decide (0≤QgN (Qdv (l.getD k ac0).code) l):=by
    unfold Qfz;by_cases hh:0≤QgN (Qdv (l.getD k ac0).code) l
    ·rw [decide_eq_true hh,decide_eq_false (by omega)];rfl
    ·rw [decide_eq_false hh,decide_eq_true (by omega)];rfl
   rw [eL] at hst;clear R eL;generalize l.getD k ac0=x at *
   generalize ((l.take k).filter (Qfz l)).map Ac.code=fs at *
   have Hst:Hid (((l.take (k+1)).filter (Qfz l)).map Ac.code=_):=hst;have HR1:Hid (World.ownsRow _ _ _ _ _ _ _):=R1;have Hcall:Hid (Calls _ _ _ _ _):=hcall;clear hst R1 hcall;obtain ⟨x0,x1,x2,x3,x4⟩:=x;obtain ⟨c0,c1,c2,c3,c4⟩:=hn;simp only [Ac.cells] at c0 c1 c2 c3 c4 hx B2 HR1 Hcall Hst;have j0:(0:Int)≤k:=by omega
   have j1:(k:Int)<l.length:=by omega
   cases hq:decide (0≤QgN (Qdv x0) l)
   ·rw [hq] at Hcall Hst;go_wp2_with fail;refine Hcall.out.mono ?_;rintro e w2 ⟨rfl,hb2⟩;have hx2:=hx.below hb2 (by simp)
    have HR2:Hid (Qb6 w2 w.heap.size _ fs):=Qb6.below HR1.out hb2;have B3:=B2.trans (hb2.mono B2.size);have hs3:=B3.size;clear hx hb2 Hcall HR1 B2 c0 c1 c2 c3 c4;obtain ⟨d0,d1,d2,d3,d4⟩:=hx2;simp only [Nat.zero_add] at d0 d1 d2 d3 d4;go_wp2_with (at_builtin;refine wpList_append_own _ rfl _ _ 148 rfl w.heap.size 9 i0 (.string ByteArray.empty) 1 16 underlying148 hi hz0 hz1 hz2 rfl (by decide) _ _ _ rfl (World.ownsRow.alloc HR2.out _) ⟨w2.heap.size,0,none⟩ 1 1 [.string x0] rfl rfl (cell_one_new _ _ _) ?c2 ?c3 ?c4 ?c5 ?_)
    case c2=>intro u hu;simp at hu;subst hu;rfl
    case c3=>unfold maxLen;omega
    case c4=>omega
    case c5=>simp;omega
    intro v' w3 hown' hgrow _;have B4:Below w.heap.size w w3:=(B3.alloc hs3 (.cells #[.string x0] 9)).grown hgrow (by simp;omega) (fun j ej=>by
     rcases HR2.out.form with ⟨hv,_⟩ | ⟨g1,c1,hv,hg1,_⟩
     ·rw [hv] at ej;cases ej
     ·rw [hv] at ej;cases ej;exact hg1)
    have R3:Qb6 w3 w.heap.size v' (((l.take (k+1)).filter (Qfz l)).map Ac.code):=by
     rw [Hst.out];unfold Qb6;simpa using hown'
    have HR3:Hid (Qb6 _ _ _ _):=R3;clear hown' hgrow R3 HR2;go_wp2;go_roundw
    case rel=>exact ⟨k+1,by omega,by go_num,HR3.out,B4⟩
    case measure=>simp [RowKit.intOf];omega
   ·rw [hq] at Hcall Hst;go_wp2_with (go_at_call 111;refine Hcall.out.mono ?_;rintro e w2 ⟨rfl,hb2⟩);go_roundw
    case rel=>exact ⟨k+1,by omega,by go_num,by unfold Hid;rw [Hst.out];simpa using Qb6.below HR1.out hb2,B2.trans (hb2.mono B2.size)⟩
    case measure=>simp [RowKit.intOf];omega
  ·have hk2:k=l.length:=by omega
   subst hk2;go_wp2;go_ret2;refine ⟨_,rfl,?_,BW⟩
   have:=R.out
   rw [List.take_length] at this;exact this
theorem leaves_ok (a:Option Addr) (cap:Nat) (l:List Ac) (w:World) (h:Qcm w a l cap) (h0:QaC l=0) :
  Calls prog 72 #[.slice a l.length cap] w fun e w'=>∃ v,e=.returned (.tuple #[v,.nilIface])∧Qb6 w' w.heap.size v (lvs l)∧Below w.heap.size w w':=by
 rcases h.lies with rfl | ⟨b,off,rfl,hlt,hc⟩
 ·refine (leaves_none a cap w).mono ?_;rintro e w' ⟨rfl,hb⟩;exact ⟨_,rfl,World.ownsRow_nil _ _ _ _,hb⟩
 ·exact leaves_some b off cap l w hlt h.cap hc h0
end
section
open Go.RowKit Go.Lib Go.Proofs.Tryz
structure IsTx (w:World) (a:Option Addr) (l:List ByteArray) (cap:Nat):Prop where
 cap:l.length≤cap
 lies:l=[]∨∃ b off,a=some ⟨b,off,none⟩∧b<w.heap.size∧∀ k,k<l.length→w.cell? ⟨b,off+k,none⟩=some (.string (l.getD k ByteArray.empty))
theorem IsTx.below {w w':World} {a:Option Addr} {l:List ByteArray} {cap:Nat} (h:IsTx w a l cap) (hb:Below w.heap.size w w'):IsTx w' a l cap:=by
 refine ⟨h.cap,?_⟩;rcases h.lies with h | ⟨b,off,e,hlt,hc⟩
 ·exact .inl h
 ·exact .inr ⟨b,off,e,by have:=hb.size;omega,fun k hk=>(hb.cell (p:=⟨b,off+k,none⟩) hlt).trans (hc k hk)⟩
theorem Qb6.isTx {w:World} {n:Nat} {v:Value} {fs:List ByteArray} (h:Qb6 w n v fs):∃ a cap,v=.slice a fs.length cap∧IsTx w a fs cap:=by
 rcases h.form with ⟨rfl,rfl⟩ | ⟨g,cap,rfl,_,hlt,hc,hr⟩
 ·exact ⟨none,0,rfl,Nat.le_refl _,.inl rfl⟩
 ·exact ⟨_,cap,rfl,hc,.inr ⟨g,0,rfl,hlt,fun k hk=>by rw [Nat.zero_add];exact hr k hk⟩⟩
set_option maxHeartbeats 1000000 in
theorem txIndex_some (b off cap:Nat) (fs:List ByteArray) (c:ByteArray) (w:World) (hlen:fs.length≤1000) (hc:∀ k,k<fs.length→w.cell? ⟨b,off+k,none⟩=some (.string (fs.getD k ByteArray.empty))) :
  Calls prog 115 #[.slice (some ⟨b,off,none⟩) fs.length cap,.string c] w fun e w'=>e=.returned (.int .i64 (Qck c 0 fs))∧w'=w:=by
 have Hc:Hid (∀ k,k<fs.length→w.cell? ⟨b,off+k,none⟩=some (.string (fs.getD k ByteArray.empty))):=hc;have Hlen:(fs.length:Int)≤1000:=by omega
 clear hc;obtain ⟨res,hres⟩:∃ res,Qck c 0 fs=res:=⟨_,rfl⟩;have Hres:Hid (Qck c 0 fs=res):=hres;rw [hres];clear hres;go_enter func115,ntmps115
 go_wp2;go_loop [8] (fun i=>∃ k:Nat,k≤fs.length∧i=.int .i64 k∧Hid (Qck c k (fs.drop k)=res)) (fun i=>fs.length - (RowKit.intOf i).toNat)
 case atStart=>exact ⟨0,Nat.zero_le _,rfl,Hres.out⟩
 case round=>
  obtain ⟨k,hk,rfl,H⟩:=hrel;by_cases hlt:k<fs.length
  ·have hn:=Hc.out k hlt;have E:Hid ((if fs.getD k ByteArray.empty=c then (k:Int) else Qck c (k+1) (fs.drop (k+1)))=res):=by
    have:=H.out
    rw [txt_drop fs k hlt] at this;exact this
   clear H;generalize fs.getD k ByteArray.empty=x at *
   have i0:(0:Int)≤k:=by omega
   have i1:(k:Int)<fs.length:=by omega
   by_cases hx:x=c
   ·have er:res=k:=by rw [← E.out,if_pos hx]
    subst er;subst hx;go_wp2;go_ret;exact ⟨rfl,rfl⟩
   ·have hx':=ch_ne (fun e=>hx (Eq.symm e):c≠x)
    have HN:Hid (Qck c (k+1) (fs.drop (k+1))=res):=by
     have:=E.out;rw [if_neg hx] at this;exact this
    go_wp2;go_round
    case rel=>exact ⟨k+1,by omega,by go_num,HN⟩
    case measure=>simp [RowKit.intOf];omega
  ·have hk2:k=fs.length:=by omega
   subst hk2;have er:res = -1:=by rw [← H.out,List.drop_length];rfl
   subst er;go_wp2;go_ret;exact ⟨rfl,rfl⟩
theorem txIndex_none (a:Option Addr) (cap:Nat) (c:ByteArray) (w:World) :
  Calls prog 115 #[.slice a 0 cap,.string c] w fun e w'=>e=.returned (.int .i64 (-1))∧w'=w:=by
 go_enter func115,ntmps115
 go_wp2;refine wp_loop_rounds 1 ?_;rw [rounds_succ];go_wp2;go_ret;exact ⟨rfl,rfl⟩
theorem Qid (a:Option Addr) (cap:Nat) (fs:List ByteArray) (c:ByteArray) (w:World) (hlen:fs.length≤1000) (h:IsTx w a fs cap) :
  Calls prog 75 #[.slice a fs.length cap,.string c] w fun e w'=>e=.returned (.bool (memB c fs))∧w'=w:=by
 rw [← QhG c fs 0];have hI:Calls prog 115 #[.slice a fs.length cap,.string c] w fun e w'=>e=.returned (.int .i64 (Qck c 0 fs))∧w'=w:=by
  rcases h.lies with rfl | ⟨b,off,rfl,_,hc⟩
  ·exact txIndex_none a cap c w
  ·exact txIndex_some b off cap fs c w hlen hc
 clear h;go_enter func75,ntmps75
 go_wp2_with fail;refine hI.mono ?_;rintro e w' ⟨rfl,rfl⟩;go_wp2;go_ret;exact ⟨rfl,rfl⟩
def Qaa (c:List Ac) (code:ByteArray):Int:=if QgN (QaG code) c<0 then 6 else if memB code (lvs c)=true then 0 else 12
def Qad (f:Nat→Int):Nat→Int
 | 0=>0
 | k+1=>if Qad f k≠0 then Qad f k else f k
theorem Qbo {f:Nat→Int} {k:Nat} (h:Qad f k=0):Qad f (k+1)=f k:=by
 unfold Qad;rw [if_neg (by simp [h])]
theorem Qdc {f:Nat→Int} {k:Nat} (h:Qad f k≠0):∀ n,k≤n→Qad f n=Qad f k
 | 0,hn=>by
        obtain rfl:k=0:=by omega
        rfl
 | n+1,hn=>by
  by_cases e:k=n+1
  ·subst e;rfl
  ·have ih:=Qdc h n (by omega)
   show (if Qad f n≠0 then Qad f n else f n)=_
   rw [if_pos (by rw [ih];exact h),ih]
theorem Qcp {f:Nat→Int} {n k:Nat} (h0:Qad f k=0) (h1:f k≠0) (hlt:k<n):Qad f n=f k:=by
 have e:=Qbo h0;rw [Qdc (k:=k+1) (by rw [e];exact h1) n hlt,e]
theorem QaH {f:Nat→Int}:∀ {n:Nat},Qad f n=0→∀ k,k<n→f k=0
 | 0,_,k,hk=>by omega
 | n+1,h,k,hk=>by
  have h0:Qad f n=0:=by
   by_cases e:Qad f n=0
   ·exact e
   ·rw [Qdc e (n+1) (by omega)] at h;exact absurd h e
  rw [Qbo h0] at h;by_cases e:k=n
  ·subst e;exact h
  ·exact QaH h0 k (by omega)
theorem QfV {f:Nat→Int}:∀ {n:Nat},(∀ k,k<n→f k=0)→Qad f n=0
 | 0,_=>rfl
 | n+1,h=>by rw [Qbo (QfV fun k hk=>h k (by omega))];exact h n (by omega)
end
section
open Go.RowKit Go.Lib Go.Proofs.Tryz
def QeH (l:List Ac):List Value:=l.flatMap fun x=>x.cells.toList
theorem lf_five (x:Ac):x.cells.toList.length=5:=rfl
theorem QdV:∀ l:List Ac,(QeH l).length=l.length*5
 | []=>rfl
 | x :: l=>by
  have:=QdV l
  unfold QeH at *
  simp only [List.flatMap_cons,List.length_append,lf_five,this,List.length_cons];omega
theorem Qhi:∀ (l:List Ac) (k j:Nat),k<l.length→j<5→(QeH l)[k*5+j]? = (l.getD k ac0).cells.toList[j]?
 | [],_,_,h,_=>absurd h (by simp)
 | x :: l,0,j,_,hj=>by
  simp only [QeH,List.flatMap_cons,Nat.zero_mul,Nat.zero_add,List.getD_cons_zero];rw [List.getElem?_append_left (by rw [lf_five];exact hj)]
 | x :: l,k+1,j,h,hj=>by
  have ih:=Qhi l k j (by simpa using h) hj
  simp only [QeH,List.flatMap_cons,List.getD_cons_succ] at ih ⊢;rw [List.getElem?_append_right (by rw [lf_five];omega),lf_five,← ih]
  congr 1;omega
theorem lfRow_isSl {W:World} {n0:Nat} {e:TypeId} {v:Value} {l:List Ac} (h:W.ownsRow n0 e 5 v l.length (QeH l)) :
  ∃ a cap,v=.slice a l.length cap∧Qcm W a l cap:=by
 obtain ⟨hlen,⟨rfl,h0⟩ | ⟨g,cap,cur,rfl,hb,hg,hc,hm,hs,ht⟩⟩:=h
 ·have:l=[]:=List.eq_nil_of_length_eq_zero h0
  subst this;exact ⟨none,0,rfl,Nat.le_refl _,.inl rfl⟩
 ·refine ⟨_,cap,rfl,hc,.inr ⟨g,0,rfl,(Array.getElem?_eq_some_iff.1 hg).1,?_⟩⟩;intro k hk;have C:∀ j,j<5→W.cell? ⟨g,0+k*5+j,none⟩=(l.getD k ac0).cells.toList[j]?:=fun j hj=>by
   have e1:(QeH l)[k*5+j]? = cur[k*5+j]?:=by
    rw [← ht,List.getElem?_take,if_pos (by omega)]
    simp
   rw [← Qhi l k j hk hj,e1];simp [World.cell?,hg]
  exact ⟨C 0 (by omega),C 1 (by omega),C 2 (by omega),C 3 (by omega),C 4 (by omega)⟩
theorem lf_src {W:World} {b off:Nat} {l:List Ac} (h:AcsAt W b off l):∀ j u,(QeH l)[j]? = some u→W.cell? ((⟨b,off,none⟩:Addr).add j)=some u:=by
 intro j u hj;rw [Addr.add_lit];obtain ⟨q,r,hr,rfl⟩:∃ q r,r<5∧j=q*5+r:=⟨j / 5,j % 5,Nat.mod_lt _ (by omega),by omega⟩
 have hlt:=(List.getElem?_eq_some_iff.1 hj).1;rw [QdV] at hlt;have hq:q<l.length:=by omega
 rw [Qhi l q r hq hr] at hj
 have:=h q hq
 rcases (by omega:r=0∨r=1∨r=2∨r=3∨r=4) with rfl | rfl | rfl | rfl | rfl
 ·rw [← hj,Nat.add_zero,this.c0];rfl
 ·rw [← hj,← Nat.add_assoc,this.c1];rfl
 ·rw [← hj,← Nat.add_assoc,this.c2];rfl
 ·rw [← hj,← Nat.add_assoc,this.c3];rfl
 ·rw [← hj,← Nat.add_assoc,this.c4];rfl
theorem lfRow_one (l:List Ac):∀ u∈QeH l,u.oneCell'=true:=by
 intro u hu;obtain ⟨x,_,hx⟩:=List.mem_flatMap.1 hu;simp only [Ac.cells,List.mem_cons,List.not_mem_nil,or_false] at hx;rcases hx with rfl | rfl | rfl | rfl | rfl <;> rfl
theorem lf_info:(prog.info? 48).map (fun i=>(i.zero,i.size,i.bytes))=some (some (.agg #[.string ByteArray.empty,.string ByteArray.empty,.int .i64 0,.string ByteArray.empty,.bool false]),5,64):=by kernel_rfl
theorem lf_none (w:World):World.ownsRow (w.alloc (.cells #[] 48)) w.heap.size 48 5 (.slice (some ⟨w.heap.size,0,none⟩) 0 0) 0 []:=
 ⟨rfl,.inr ⟨w.heap.size,0,#[],rfl,Nat.le_refl _,World.alloc_heap_new w _,Nat.le_refl _,by unfold maxLen;omega,rfl,rfl⟩⟩
theorem Qg8 (x:Addr) (l:List Ac) (cap:Nat) (w:World) (hc:∀ j u,(QeH l)[j]? = some u→w.cell? (x.add j)=some u) (hx:l≠[]→x.block<w.heap.size) (hl:l.length≤1000) :
  Calls prog 47 #[.slice (some x) l.length cap] w fun e w'=>∃ a' cap',e=.returned (.slice a' l.length cap')∧Qcm w' a' l cap'∧Below w.heap.size w w':=by
 have q35:∀ (w:World) (a:Option Addr) (n c n' c':Nat),(binOp .eql 49 (.slice a n c) (.slice none n' c')).run prog w=.ok (.bool a.isNone) w:=fun w a n c n' c'=>Lib.run_eql_slice_nil w _ _ a n c n' c' underlying49
 have B1:Below w.heap.size w (w.alloc (.cells #[] 48)):=(Below.refl _ w).alloc (Nat.le_refl _) _;have HS:Hid (∀ j u,(QeH l)[j]? = some u→(w.alloc (.cells #[] 48)).cell? (x.add j)=some u):=fun j u h=>by
  have hne:l≠[]:=fun e=>by rw [e] at h;simp [QeH] at h
  rw [B1.cell (p:=x.add j) (by have:=hx hne;unfold Addr.add;split <;> exact this)]
  exact hc j u h
 have Hm1:Hid (0+l.length≤maxLen):=by unfold Hid maxLen;omega
 have Hm2:Hid ((0+l.length)*64≤140737488355328):=by unfold Hid;omega
 have Hm3:Hid (w.heap.size≤(w.alloc (.cells #[] 48)).heap.size):=by unfold Hid;simp
 have HRw:Hid (World.ownsRow (w.alloc (.cells #[] 48)) w.heap.size 48 5 (.slice (some ⟨w.heap.size,0,none⟩) 0 0) 0 []):=lf_none w;obtain ⟨i0,hi,hz0,hz1,hz2⟩:=info_parts lf_info;have l0:(0:Int)≤l.length:=by omega
 clear hc hx;go_enter func47,ntmps47
 go_wp2_with (at_builtin;refine wpList_append_own _ rfl _ _ 49 rfl w.heap.size 48 i0 (.agg #[.string ByteArray.empty,.string ByteArray.empty,.int .i64 0,.string ByteArray.empty,.bool false]) 5 64 underlying49 hi hz0 hz1 hz2 rfl (by decide) _ _ _ rfl HRw.out x l.length cap (QeH l) rfl (QdV l) HS.out (lfRow_one l) Hm1.out Hm2.out Hm3.out ?_)
 intro v w1 hown hgrow _;have hb:Below w.heap.size w w1:=B1.grown hgrow B1.size (fun j e=>by simp [Value.ownBlock] at e;omega)
 have hown2:World.ownsRow w1 w.heap.size 48 5 v l.length (QeH l):=by simpa using hown
 obtain ⟨a1,k1,rfl,hs⟩:=lfRow_isSl hown2;have HE:Hid (Qcm w1 a1 l k1∧Below w.heap.size w w1):=⟨hs,hb⟩;clear hown hown2 hgrow hs hb B1 HS HRw;go_wp2;go_ret;exact ⟨_,_,rfl,HE.out.1,HE.out.2⟩
theorem cloneA_nil (cap:Nat) (w:World) :
  Calls prog 47 #[.slice none 0 cap] w fun e w'=>∃ a' cap',e=.returned (.slice a' 0 cap')∧Qcm w' a' [] cap'∧Below w.heap.size w w':=by
 have q35:∀ (w:World) (a:Option Addr) (n c n' c':Nat),(binOp .eql 49 (.slice a n c) (.slice none n' c')).run prog w=.ok (.bool a.isNone) w:=fun w a n c n' c'=>Lib.run_eql_slice_nil w _ _ a n c n' c' underlying49
 go_enter func47,ntmps47
 go_wp2;go_ret;exact ⟨_,_,rfl,⟨Nat.zero_le _,.inl rfl⟩,Below.refl _ _⟩
theorem Qiy (a:Option Addr) (l:List Ac) (cap:Nat) (w:World) (h:Qcm w a l cap) (hl:l.length≤1000) :
  Calls prog 47 #[.slice a l.length cap] w fun e w'=>∃ a' cap',e=.returned (.slice a' l.length cap')∧Qcm w' a' l cap'∧Below w.heap.size w w':=by
 rcases h.lies with rfl | ⟨b,off,rfl,hlt,hc⟩
 ·cases a with
  | none=>exact cloneA_nil cap w
  | some x=>exact Qg8 x [] cap w (by simp [QeH]) (by simp) (by simp)
 ·exact Qg8 ⟨b,off,none⟩ l cap w (lf_src hc) (fun _=>hlt) hl
structure Lfs (w:World) (B1 B2:Nat) (c:List Ac):Prop where
 b1:B1<w.heap.size
 b2:B2<w.heap.size
 len:c.length≤60
 lo:∃ a cap,w.cell? ⟨B1,0,none⟩=some (.slice a c.length cap)∧Qcm w a c cap
 lf:∃ a cap,w.cell? ⟨B2,0,none⟩=some (.slice a (lvs c).length cap)∧IsTx w a (lvs c) cap
theorem Lfs.below {w w':World} {B1 B2:Nat} {c:List Ac} (h:Lfs w B1 B2 c) (hb:Below w.heap.size w w'):Lfs w' B1 B2 c:=by
 obtain ⟨a,cap,h1,h2⟩:=h.lo;obtain ⟨a',cap',h3,h4⟩:=h.lf;exact ⟨by have:=h.b1;have:=hb.size;omega,by have:=h.b2;have:=hb.size;omega,h.len,⟨a,cap,(hb.cell (p:=⟨B1,0,none⟩) h.b1).trans h1,h2.below hb⟩,⟨a',cap',(hb.cell (p:=⟨B2,0,none⟩) h.b2).trans h3,h4.below hb⟩⟩
theorem lvs_len (c:List Ac):(lvs c).length≤c.length:=by unfold lvs;rw [List.length_map];exact List.length_filter_le _ _
set_option maxHeartbeats 2000000 in
theorem QgU (c:List Ac) (code:ByteArray) (B1 B2:Nat) (w:World) (h:Lfs w B1 B2 c) :
  Calls prog 73 #[.string code,.pointer (some ⟨B1,0,none⟩),.pointer (some ⟨B2,0,none⟩)] w fun e w'=>e=.returned (chE (Qaa c code))∧Below w.heap.size w w':=by
 obtain ⟨a,cap,k1,k2⟩:=h.lo;have hlen:=h.len;have HC:Hid (Calls _ _ _ _ _):=QhI a cap c code w (by omega) k2
 have HT:Hid (∀ w1,Below w.heap.size w w1→∃ a' cap',w1.cell? ⟨B2,0,none⟩=some (.slice a' (lvs c).length cap')∧Calls prog 75 #[.slice a' (lvs c).length cap',.string code] w1 fun e w'=>e=.returned (.bool (memB code (lvs c)))∧w'=w1):=fun w1 hb1=>by
  obtain ⟨a',cap',e1,e2⟩:=(h.below hb1).lf;exact ⟨a',cap',e1,Qid a' cap' (lvs c) code w1 (by have:=lvs_len c;omega) e2⟩
 obtain ⟨res,hres⟩:∃ res,Qaa c code=res:=⟨_,rfl⟩;have Hres:Hid (Qaa c code=res):=hres;rw [hres];clear hres h k2 hlen;by_cases c1:QgN (QaG code) c<0
 ·have er:res=6:=by rw [← Hres.out];unfold Qaa;rw [if_pos c1]
  subst er;rw [QaA (by decide)]
  clear Hres HT;generalize QgN (QaG code) c=ix at *
  go_enter func73,ntmps73
  go_wp2_with fail;refine HC.out.mono ?_;rintro e w1 ⟨rfl,hb1⟩;clear HC;go_wp2;go_ret;exact ⟨rfl,hb1⟩
 ·have HR2:Hid ((if memB code (lvs c)=true then (0:Int) else 12)=res):=by
   have:=Hres.out;unfold Qaa at this;rw [if_neg c1] at this;exact this
  clear Hres;generalize QgN (QaG code) c=ix at *
  cases hm:memB code (lvs c)
  ·rw [hm] at HT HR2;have er:res=12:=by rw [← HR2.out];rfl
   subst er;rw [QaA (by decide)]
   go_enter func73,ntmps73
   go_wp2_with fail;refine HC.out.mono ?_;rintro e w1 ⟨rfl,hb1⟩;obtain ⟨a',cap',d1,d3⟩:=HT.out w1 hb1;have HD:Hid (Calls _ _ _ _ _):=d3;clear HC HT d3 k1;go_wp2_with (go_at_call 75;refine HD.out.mono ?_;rintro e w' ⟨rfl,rfl⟩);go_ret;exact ⟨rfl,hb1⟩
  ·rw [hm] at HT HR2;have er:res=0:=by rw [← HR2.out];rfl
   subst er;rw [QbD];go_enter func73,ntmps73
   go_wp2_with fail;refine HC.out.mono ?_;rintro e w1 ⟨rfl,hb1⟩;obtain ⟨a',cap',d1,d3⟩:=HT.out w1 hb1;have HD:Hid (Calls _ _ _ _ _):=d3;clear HC HT d3 k1;go_wp2_with (go_at_call 75;refine HD.out.mono ?_;rintro e w' ⟨rfl,rfl⟩);go_ret;exact ⟨rfl,hb1⟩
theorem Qbx (a:Option Addr) (cap:Nat) (c:List Ac) (w:World) (h:Qcm w a c cap) (h0:QaC c≠0) :
  Calls prog 43 #[.slice a c.length cap] w fun e w'=>e=.returned (.tuple #[.nilFunc,chE (QaC c)])∧Below w.heap.size w w':=by
 have HC:=leaves_bad a cap c w h h0;rw [QaA h0] at HC ⊢;clear h h0;generalize QaC c=bad at *
 go_enter func43,ntmps43
 go_wp2_with fail;refine HC.mono ?_;rintro e w1 ⟨rfl,hb1⟩;have B2':=hb1.alloc hb1.size (.cells #[.slice none 0 0] 148);clear HC;go_wp2;go_ret2;exact ⟨rfl,B2'⟩
set_option maxHeartbeats 2000000 in
theorem QbK (a:Option Addr) (cap:Nat) (c:List Ac) (w:World) (h:Qcm w a c cap) (h0:QaC c=0) :
  Calls prog 43 #[.slice a c.length cap] w fun e w'=>∃ B1 B2,e=.returned (.tuple #[.func (.func 73) #[] #[.pointer (some ⟨B1,0,none⟩),.pointer (some ⟨B2,0,none⟩)],.nilIface])∧Lfs w' B1 B2 c∧Below w.heap.size w w':=by
 have HC:=leaves_ok a cap c w h h0;have hlen:=Qcy h0;have HF:Hid (∀ w1 v,Below w.heap.size w w1→Qb6 w1 w.heap.size v (lvs c)→Calls prog 47 #[.slice a c.length cap] (w1.alloc (.cells #[v] 148)) fun e w'=>∃ a' cap',e=.returned (.slice a' c.length cap')∧Lfs (w'.alloc (.cells #[.slice a' c.length cap'] 49)) w'.heap.size w1.heap.size c∧Below w.heap.size w (w'.alloc (.cells #[.slice a' c.length cap'] 49))):=fun w1 v hb1 hr=>by
  have B2':=hb1.alloc hb1.size (.cells #[v] 148);have B3:Below w1.heap.size w1 (w1.alloc (.cells #[v] 148)):=(Below.refl _ w1).alloc (Nat.le_refl _) _;obtain ⟨a',cap',rfl,hx⟩:=hr.isTx;refine (Qiy a c cap _ (h.below B2') (by omega)).mono ?_
  rintro e w2 ⟨a2,cap2,rfl,hs2,hb2⟩;have hsz:w1.heap.size<w2.heap.size:=by have:=hb2.size;simp at this;omega
  have B4:Below w2.heap.size w2 (w2.alloc (.cells #[.slice a2 c.length cap2] 49)):=(Below.refl _ w2).alloc (Nat.le_refl _) _;refine ⟨_,_,rfl,⟨by simp,by simp;omega,hlen,⟨a2,cap2,by simp,hs2.below B4⟩,⟨a',cap',?_,((hx.below B3).below hb2).below B4⟩⟩,(B2'.trans (hb2.mono B2'.size)).alloc (by have:=hb1.size;omega) _⟩
  rw [B4.cell (p:=⟨w1.heap.size,0,none⟩) (by show w1.heap.size<w2.heap.size;omega),hb2.cell (p:=⟨w1.heap.size,0,none⟩) (by simp)]
  simp
 clear h h0;go_enter func43,ntmps43
 go_wp2_with fail;refine HC.mono ?_;rintro e w1 ⟨v,rfl,hr,hb1⟩;have HD:Hid (Calls _ _ _ _ _):=HF.out w1 v hb1 hr;obtain ⟨a',cap',rfl,hx⟩:=hr.isTx;clear hr hb1 hx HC HF;go_wp2_with fail;refine HD.out.mono ?_;rintro e w2 ⟨a2,cap2,rfl,hL,hB⟩;have HL:Hid (Lfs _ _ _ _):=hL;clear hL HD;go_wp2;go_ret2;exact ⟨_,_,rfl,HL.out,hB⟩
end
end Go.Proofs.YtjifbbdkpanagaaGreatDoor
