/-
  Part of a proof (see the last text).
-/
import Derived.Test.YtjifbbdkpanagaaGreatDoorZd44
set_option linter.unusedVariables false
set_option linter.unusedSimpArgs false
set_option maxRecDepth 100000
namespace Go.Proofs.YtjifbbdkpanagaaGreatDoor
section
open Go.RowKit Go.Lib Go.Proofs.Tryz
theorem getD_set_ne {α:Type} (l:List α) (i j:Nat) (x d:α) (h:i≠j):(l.set i x).getD j d=l.getD j d:=by
 rw [List.getD_eq_getElem?_getD,List.getElem?_set_ne h,← List.getD_eq_getElem?_getD]
theorem Qdl {α:Type} (l:List α) (i:Nat) (x d:α) (h:i<l.length):(l.set i x).getD i d=x:=by
 rw [List.getD_eq_getElem?_getD,List.getElem?_set_self h];rfl
theorem Qh0 (h:Hd) (P:List (Nat×List UInt8)) (D:Dk) (k:Nat):(wpD h P D k).now.length=D.now.length:=by
 induction k with
 | zero=>rfl
 | succ k ih=>
  unfold wpD
  split
  ·exact ih
  ·simp only [Dk.write,List.length_set,ih]
theorem QgI (h:Hd) (P:List (Nat×List UInt8)) (D:Dk) (b:Nat):∀ k,(∀ j,j<k→look P j≠none→QbO j (h.whr.getD j 0)≠b)→(wpD h P D k).now.getD b bk0=D.now.getD b bk0
 | 0,_=>rfl
 | k+1,hj=>by
  unfold wpD
  split
  ·exact QgI h P D b k (fun j hjk=>hj j (by omega))
  ·rename_i l hq;simp only [Dk.write];rw [getD_set_ne _ _ _ _ _ (hj k (by omega) (by rw [hq];simp))]
   exact QgI h P D b k (fun j hjk=>hj j (by omega))
theorem Qdh (k:Nat) (x:UInt8):QbO k x=2+k∨QbO k x=42+k:=by unfold QbO;split <;> simp
theorem freeB_apart {j k:Nat} (hj:j<40) (hk:k<40) (h:j≠k) (x y:UInt8):QbO j x≠QbO k y:=by
 rcases Qdh j x with e | e <;> rcases Qdh k y with e' | e' <;> omega
theorem wpD_there (h:Hd) (P:List (Nat×List UInt8)) (D:Dk) (n:Nat) (hl:D.now.length=n) (hn:90≤n) (j:Nat) (hj:j<40) (l:List UInt8) (hq:look P j=some l):∀ k,j<k→k≤40→(wpD h P D k).now.getD (QbO j (h.whr.getD j 0)) bk0=⟨QdN (pgB l),false⟩
 | 0,h0,_=>by omega
 | k+1,hjk,hk=>by
  by_cases e:j=k
  ·subst e;unfold wpD;rw [hq];simp only [Dk.write];rw [Qdl _ _ _ _ (by rw [Qh0,hl];have:=Qff j (h.whr.getD j 0) hj;omega)]
  ·have ih:=wpD_there h P D n hl hn j hj l hq k (by omega) (by omega)
   unfold wpD
   split
   ·exact ih
   ·simp only [Dk.write];rw [getD_set_ne _ _ _ _ _ (freeB_apart (by omega) hj (by omega) _ _)]
    exact ih
theorem wpW_get (h:Hd) (P:List (Nat×List UInt8)) (ws:List UInt8) (hw:ws.length=40) (j:Nat) (hj:j<40):∀ k,(wpW h P ws k).getD j 0=if j<k∧look P j≠none then UInt8.ofNat (QbO j (h.whr.getD j 0)) else ws.getD j 0
 | 0=>by simp [wpW]
 | k+1=>by
  have ih:=wpW_get h P ws hw j hj k;unfold wpW
  split
  ·rename_i hq;rw [ih];by_cases e:j=k
   ·subst e;simp [hq]
   ·have:(j<k+1)=(j<k):=by simp;omega
    simp only [this]
  ·rename_i l hq;by_cases e:j=k
   ·subst e;rw [Qdl _ _ _ _ (by rw [QfE,hw];exact hj),if_pos ⟨by omega,by rw [hq];simp⟩]
   ·rw [getD_set_ne _ _ _ _ _ (fun e'=>e e'.symm),ih]
    have:(j<k+1)=(j<k):=by simp;omega
    simp only [this]
def WhOk (h:Hd):Prop:=∀ k,k<40→(h.whr.getD k 0).toNat=0∨(h.whr.getD k 0).toNat=2+k∨(h.whr.getD k 0).toNat=42+k
def Pages (D:Dk) (n:Nat) (h:Hd) (f:Nat→List UInt8):Prop:=WhOk h∧∀ k,k<40→PgIs D n h k (f k)
theorem nxD_now (D:Dk) (h:Hd) (P:List (Nat×List UInt8)) (hf:D.fail<0):(nxD D h P).now=(wpD h P D.flush 40).now.set (1 - h.blk) ⟨QdN (hdB (nxH h P)),false⟩:=by
 unfold nxD;rw [Qfv (by rw [Qdm];exact hf)]
 rfl
theorem nxD_fail (D:Dk) (h:Hd) (P:List (Nat×List UInt8)) (hf:D.fail<0):(nxD D h P).fail<0:=by
 unfold nxD;rw [Qfv (by rw [Qdm];exact hf)]
 show (wpD h P D.flush 40).fail<0;rw [Qdm];exact hf
theorem nxH_whr (h:Hd) (k:h.ok) (P:List (Nat×List UInt8)) (j:Nat) (hj:j<40):(nxH h P).whr.getD j 0=if look P j≠none then UInt8.ofNat (QbO j (h.whr.getD j 0)) else h.whr.getD j 0:=by
 unfold nxH;simp only;rw [wpW_get h P h.whr k.w j hj 40];by_cases e:look P j=none
 ·simp [e]
 ·simp [e,hj]
theorem WhOk.next {h:Hd} (hw:WhOk h) (k:h.ok) (P:List (Nat×List UInt8)):WhOk (nxH h P):=by
 intro j hj;rw [nxH_whr h k P j hj]
 split
 ·rw [free_u8 j _ hj]
  have:=Qdh j (h.whr.getD j 0)
  omega
 ·exact hw j hj
theorem Pages.next {D:Dk} {n:Nat} {h:Hd} {f:Nat→List UInt8} (hp:Pages D n h f) (k:h.ok) (hd:D.now.length=n) (hn:90≤n) (P:List (Nat×List UInt8)) (hP:∀ k l,look P k=some l→l.length≤60) (hf:D.fail<0):Pages (nxD D h P) n (nxH h P) (fun j=>(look P j).getD (f j)):=by
 refine ⟨hp.1.next k P,fun j hj=>?_⟩
 have hb1:1 - h.blk≤1:=by omega
 show PgIs (nxD D h P) n (nxH h P) j ((look P j).getD (f j));unfold PgIs;rw [nxH_whr h k P j hj]
 cases hq:look P j with
 | some l=>
  right
  simp only [Option.getD_some];have hfb:=Qff j (h.whr.getD j 0) hj;rw [if_pos (by simp),free_u8 j _ hj]
  refine ⟨fun e=>?_,by omega,?_,hP j l hq⟩
  ·have:=congrArg UInt8.toNat e
   rw [free_u8 j _ hj] at this;have h0:(0:UInt8).toNat=0:=rfl;omega
  ·unfold pgAt;rw [nxD_now D h P hf,getD_set_ne _ _ _ _ _ (by omega)]
   exact wpD_there h P D.flush n hd hn j hj l hq 40 hj (Nat.le_refl _)
 | none=>
  rw [if_neg (by simp)]
  simp only [Option.getD_none];rcases hp.2 j hj with ⟨h1,h2⟩ | ⟨h1,h2,h3,h4⟩
  ·exact .inl ⟨h1,h2⟩
  ·refine .inr ⟨h1,h2,?_,h4⟩;have hwj:=hp.1 j hj;have hne:(h.whr.getD j 0).toNat≠0:=fun e=>h1 (UInt8.toNat_inj.1 (by
    have h0:(0:UInt8).toNat=0:=rfl;omega))
   unfold pgAt;rw [nxD_now D h P hf,getD_set_ne _ _ _ _ _ (by omega),QgI]
   ·exact h3
   ·intro i hi hni e;have hij:i≠j:=fun e2=>hni (by rw [e2];exact hq)
    have:=Qdh i (h.whr.getD i 0)
    omega
def fmtD (n:Nat):Dk:=(hwR (dk0 n) (Qh3 none)).2
theorem fmtD_eq (n:Nat):hwR (dk0 n) (Qh3 none)=(0,fmtD n)∧(fmtD n).now=(List.replicate n bk0).set 1 ⟨QdN (hdB (Qh3 none)),false⟩∧(fmtD n).fail = -1∧(fmtD n).lim 3:=by
 have hf:(dk0 n).fail<0:=by show (-1:Int)<0;decide
 unfold fmtD;rw [Qfv hf];exact ⟨rfl,rfl,rfl,⟨Nat.le_refl 3,Nat.zero_le 3⟩⟩
theorem QiJ (n:Nat) (hn:90≤n):hdAt (fmtD n) 0 none∧hdAt (fmtD n) 1 (some (Qh3 none)):=by
 have e:=(fmtD_eq n).2.1;refine ⟨.inr ?_,?_,fmtH_ok none,rfl⟩
 ·rw [e,getD_set_ne _ _ _ _ _ (by omega),List.getD_eq_getElem?_getD,List.getElem?_replicate]
  simp [show 0<n by omega]
 ·rw [e,Qdl _ _ _ _ (by simp;omega)]
theorem fmtD_pages (n:Nat):Pages (fmtD n) n (Qh3 none) (fun _=>[]):=by
 have e:∀ k,k<40→(Qh3 none).whr.getD k 0=0:=fun k hk=>by
  rw [show (Qh3 none).whr=List.replicate 40 0 from rfl,List.getD_eq_getElem?_getD,List.getElem?_replicate,if_pos hk]
  rfl
 refine ⟨fun k hk=>.inl (by rw [e k hk];rfl),fun k hk=>.inl ⟨e k hk,rfl⟩⟩
end
section
open Go.RowKit Go.Lib Go.Proofs.Tryz
section
variable {w W:World} {p nb sb:Nat} {cv:Value} {n:Nat} {D:Dk} {s mb:Nat} {h:Hd} {P:List (Nat×List UInt8)} {lost:Bool}
end
end
section
open Go.RowKit Go.Lib Go.Proofs.Tryz
theorem turn_two (t:UInt8):t≠t+1+1:=by
 intro e
 have:=congrArg UInt8.toNat e
 rw [UInt8.toNat_add,UInt8.toNat_add] at this;have h1:(1:UInt8).toNat=1:=rfl
 have:=UInt8.toNat_lt t
 omega
theorem newer_next (h:Hd) (P:List (Nat×List UInt8)) (hb:h.blk≤1):((nxH h P).blk=0→QbC (some (nxH h P)) (some h)=some (nxH h P))∧((nxH h P).blk=1→QbC (some h) (some (nxH h P))=some (nxH h P)):=by
 constructor
 ·intro e;unfold QbC;simp only;rw [if_neg];show ¬ h.turn=h.turn+1+1;exact turn_two h.turn
 ·intro e;unfold QbC;simp only;rw [if_pos];rfl
end
section
open Go.RowKit Go.Lib Go.Proofs.Tryz
end
section
open Go.RowKit Go.Lib Go.Proofs.Tryz
section
variable {w W U:World} {p nb sb:Nat} {cv:Value} {n:Nat} {D:Dk} {s mb:Nat} {h:Hd} {P:List (Nat×List UInt8)} {lost:Bool} {b:Nat} {cs:Array Value} {t:TypeId}
end
end
section
open Go.RowKit Go.Lib Go.Proofs.Tryz
structure Gd (D:Dk) (n:Nat) (h:Hd) (f:Nat→List UInt8):Prop where
 fl:D.fail<0
 ln:D.now.length=n
 hd:hdAt D h.blk (some h)
 ot:∃ o,hdAt D (1 - h.blk) o∧(h.blk=0→QbC (some h) o=some h)∧(h.blk=1→QbC o (some h)=some h)
 pg:Pages D n h f
theorem Gd.heads {D:Dk} {n:Nat} {h:Hd} {f:Nat→List UInt8} (g:Gd D n h f):∃ o0 o1,hdAt D 0 o0∧hdAt D 1 o1∧QbC o0 o1=some h:=by
 obtain ⟨o,h1,h2,h3⟩:=g.ot;have hb:=g.hd.2.1.b;have hd:=g.hd;rcases (show h.blk=0∨h.blk=1 by omega) with e | e
 ·rw [e] at h1 hd;exact ⟨some h,o,hd,h1,h2 e⟩
 ·rw [e] at h1 hd;exact ⟨o,some h,h1,hd,h3 e⟩
theorem Gd.next {D:Dk} {n:Nat} {h:Hd} {f:Nat→List UInt8} (g:Gd D n h f) (hn:90≤n) (P:List (Nat×List UInt8)) (hP:∀ k l,look P k=some l→l.length≤60) (hv:h.ver+1≤1000000):Gd (nxD D h P) n (nxH h P) (fun j=>(look P j).getD (f j)):=by
 have hb:=g.hd.2.1.b;have hk:=g.hd.2.1;have gl:=g.ln;have en:=nxD_now D h P g.fl;have hlen:(wpD h P D.flush 40).now.length=n:=by rw [Qh0];exact g.ln
 have hbn:(nxH h P).blk=1 - h.blk:=rfl;have kn:(nxH h P).ok:=⟨by rw [hbn];omega,hv,by show (wpW h P h.whr 40).length=40;rw [QfE];exact hk.w⟩
 refine ⟨nxD_fail D h P g.fl,by rw [en,List.length_set,hlen],⟨by rw [hbn,en,Qdl _ _ _ _ (by omega)],kn,rfl⟩,⟨some h,?_,newer_next h P hb⟩,g.pg.next hk g.ln (by omega) P hP g.fl⟩
 refine ⟨?_,hk,by rw [hbn];omega⟩
 rw [hbn,show 1 - (1 - h.blk)=h.blk by omega,en,getD_set_ne _ _ _ _ _ (by omega),QgI]
 ·exact g.hd.1
 ·intro j hj _ e
  have:=Qff j (h.whr.getD j 0) hj
  omega
theorem fmt_gd (n:Nat) (hn:90≤n):Gd (fmtD n) n (Qh3 none) (fun _=>[]):=by
 obtain ⟨ef,en,ff,fl⟩:=fmtD_eq n;obtain ⟨h0,h1⟩:=QiJ n hn;exact ⟨by rw [ff];decide,by rw [en,List.length_set,List.length_replicate],h1,⟨none,h0,fun _=>rfl,fun _=>rfl⟩,fmtD_pages n⟩
end
section
end
section
open Go.RowKit Go.Lib Go.Proofs.Tryz
def Qdu (w:List UInt8) (k:Nat):List UInt8:=(w.drop (k*60)).take 60
theorem cutP_len (w:List UInt8) (k:Nat):(Qdu w k).length≤60:=by unfold Qdu;rw [List.length_take];omega
theorem QeP (w:List UInt8) (k:Nat):(Qdu w k).length=min 60 (w.length - k*60):=by unfold Qdu;rw [List.length_take,List.length_drop]
theorem Qhp (w:List UInt8):∀ n,(List.range n).flatMap (Qdu w)=w.take (n*60)
 | 0=>by simp
 | n+1=>by
  rw [List.range_succ,List.flatMap_append,Qhp w n,List.flatMap_singleton,Nat.succ_mul,List.take_add];rfl
theorem cutP_next (w:List UInt8) (n:Nat):(List.range (n+1)).flatMap (Qdu w)=(List.range n).flatMap (Qdu w)++Qdu w n:=by
 rw [List.range_succ,List.flatMap_append,List.flatMap_singleton]
theorem cutP_none {w:List UInt8} {k:Nat} (h:w.length≤k*60):Qdu w k=[]:=by
 unfold Qdu;rw [List.drop_eq_nil_of_le h];rfl
def PutP (w:List UInt8) (k:Nat) (P:List (Nat×List UInt8)):Prop:=∀ j,look P j=if j<k then some (Qdu w j) else none
theorem PutP.zero (w:List UInt8):PutP w 0 []:=fun j=>by simp [look]
theorem PutP.next {w:List UInt8} {k:Nat} {P:List (Nat×List UInt8)} (h:PutP w k P):PutP w (k+1) (upd P k (Qdu w k)):=fun j=>by
 rw [look_upd,h j];by_cases e:k=j
 ·subst e;rw [if_pos rfl,if_pos (by omega)]
 ·rw [if_neg e];by_cases hj:j<k
  ·rw [if_pos hj,if_pos (by omega)]
  ·rw [if_neg hj,if_neg (by omega)]
theorem PutP.len {w:List UInt8} {k:Nat} {P:List (Nat×List UInt8)} (h:PutP w k P):∀ j l,look P j=some l→l.length≤60:=fun j l e=>by
 rw [h j] at e;split at e
 ·cases e;exact cutP_len w j
 ·cases e
theorem PutP.all {w:List UInt8} {k:Nat} {P:List (Nat×List UInt8)} (h:PutP w k P) (hk:w.length≤k*60) (j:Nat):(look P j).getD []=Qdu w j:=by
 rw [h j]
 split
 ·rfl
 ·rw [cutP_none (by have:k*60≤j*60:=Nat.mul_le_mul_right _ (by omega);omega)];rfl
theorem hdAt_now {D D':Dk} (h:D'.now=D.now) {b:Nat} {o:Option Hd} (k:hdAt D b o):hdAt D' b o:=by
 cases o <;> simp only [hdAt,h] at k ⊢ <;> exact k
theorem Gd.now {D D':Dk} {n:Nat} {h:Hd} {f:Nat→List UInt8} (g:Gd D n h f) (hn:D'.now=D.now) (hf:D'.fail<0):Gd D' n h f:=by
 obtain ⟨o,o1,o2,o3⟩:=g.ot;refine ⟨hf,by rw [hn];exact g.ln,hdAt_now hn g.hd,⟨o,hdAt_now hn o1,o2,o3⟩,g.pg.1,fun k hk=>?_⟩
 have:=g.pg.2 k hk
 unfold PgIs pgAt at this ⊢;rw [hn];exact this
theorem nx_crash (D:Dk) (h:Hd) (P:List (Nat×List UInt8)) (hf:D.fail<0):((nxD D h P).crash [] 0).now=(nxD D h P).now∧((nxD D h P).crash [] 0).fail<0:=by
 have e:nxD D h P=((wpD h P D.flush 40).flush.write (nxH h P).blk (hdB (nxH h P))).flush:=by
  unfold nxD;rw [Qfv (by rw [Qdm];exact hf)]
 rw [e];exact ⟨rfl,by show (-1:Int)<0;omega⟩
theorem gd_crash {D:Dk} {n:Nat} {h:Hd} {f:Nat→List UInt8} (g:Gd D n h f) (hn:90≤n) (P:List (Nat×List UInt8)) (hP:∀ k l,look P k=some l→l.length≤60) (hv:h.ver+1≤1000000):Gd ((nxD D h P).crash [] 0) n (nxH h P) (fun j=>(look P j).getD (f j)):=by
 obtain ⟨h1,h2⟩:=nx_crash D h P g.fl;exact (g.next hn P hP hv).now h1 h2
theorem QcT.page {W:World} {b o cap:Nat} {l:List UInt8} (h:QcT W (some ⟨b,o,none⟩) l cap) (k:Nat):QcT W (some ⟨b,o+k*60,none⟩) (Qdu l k) (cap - k*60):=by
 have hc:=h.cap;refine ⟨by rw [QeP];omega,?_⟩
 rcases h.lies with h0 | ⟨b1,o1,e,hb,hat⟩
 ·left;rw [h0];simp [Qdu]
 ·cases e;refine .inr ⟨b,o+k*60,rfl,hb,fun j hj=>?_⟩
  have hj2:=hj;rw [QeP] at hj2
  have:=hat (k*60+j) (by omega)
  have e:(Qdu l k)[j]'hj=l[k*60+j]'(by omega):=by
   clear this hat;unfold Qdu at hj ⊢;simp
  rw [Nat.add_assoc,this,e]
end
end Go.Proofs.YtjifbbdkpanagaaGreatDoor
