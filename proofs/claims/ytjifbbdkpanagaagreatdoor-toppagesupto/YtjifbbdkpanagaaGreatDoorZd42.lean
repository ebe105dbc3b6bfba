/-
  Part of a proof (see the last text).
-/
import Derived.Test.YtjifbbdkpanagaaGreatDoorZd41
set_option linter.unusedVariables false
set_option linter.unusedSimpArgs false
set_option maxRecDepth 100000
namespace Go.Proofs.YtjifbbdkpanagaaGreatDoor
section
open Go.RowKit Go.Lib Go.Proofs.Tryz
theorem Qia.below' {w w':World} {n m:Nat} {a:Option Addr} {l:List UInt8} {cap:Nat} (h:Qia w n a l cap) (hb:Below m w w') (hm:n≤m):Qia w' n a l cap:=h.of (hb.mono hm)
theorem QbM.below {W W':World} {b:Nat} {st:St} (h:QbM W b st) (hb:Below (b+1) W W'):QbM W' b st:=by
 cases st with
 | none=>exact (hb.block b (Nat.lt_succ_self _)).trans h
 | some l=>
  obtain ⟨a,cap,x,hby⟩:=h;exact ⟨a,cap,(hb.block b (Nat.lt_succ_self _)).trans x,hby.below' hb (Nat.le_succ _)⟩
section
variable {P:Program} {ops:Array Oper} {Q:Exit→Act→World→Prop} {md:Region.Mode} {T:World→Prop} {g:Nat}
end
end
section
open Go.RowKit Go.Lib Go.Proofs.Tryz
structure RbSt (w:World) (v:Value) (ls:List Bl) (W:World) (st:St):Prop where
 rd:QbM W w.heap.size st
 len:Qdw st
 row:Qba W (w.heap.size+1) v ls
 bel:Below w.heap.size w W
theorem RbSt.step {w:World} {v:Value} {ls:List Bl} {W W':World} {st st':St} (h:RbSt w v ls W st) (hk:Qaj w.heap.size W W') (hr:QbM W' w.heap.size st') (hl:Qdw st'):RbSt w v ls W' st':=
 ⟨hr,hl,hk.brow h.row (by omega),h.bel.trans (hk.toBelow (by omega) h.bel.size)⟩
theorem cells_bal (w:World) (x0:Int) (x1 x2:ByteArray) (x3:Int):∀ j u,([.int .i64 x0,.string x1,.string x2,.int .i64 x3]:List Value)[j]? = some u→(w.alloc (.cells #[.int .i64 x0,.string x1,.string x2,.int .i64 x3] 63)).cell? ((⟨w.heap.size,0,none⟩:Addr).add j)=some u:=by
 intro j u hj;rw [by_add,Nat.zero_add];rcases j with _ | _ | _ | _ | j
 ·simpa using hj
 ·simpa using hj
 ·simpa using hj
 ·simpa using hj
 ·simp at hj
theorem bal_one (x0:Int) (x1 x2:ByteArray) (x3:Int):∀ u∈([.int .i64 x0,.string x1,.string x2,.int .i64 x3]:List Value),u.oneCell'=true:=by
 intro u hu;simp at hu;rcases hu with rfl | rfl | rfl | rfl <;> rfl
set_option maxHeartbeats 4000000 in
theorem fReadBals_any (a:Option Addr) (cap:Nat) (l:List UInt8) (w:World) (hl:l.length≤9223372036854775807) (h:QcT w a l cap) :
  Calls prog 14 #[.slice a l.length cap] w fun e w'=>
   (((balS (some l)).2=none∧e=.returned (.tuple #[.slice none 0 0,.int .i64 0,enE 9])) ∨
    (∃ r v,(balS (some l)).2=some r∧e=.returned (.tuple #[v,.int .i64 ((l.length:Int) - r.length),.nilIface])∧Qba w' w.heap.size v (balS (some l)).1))∧Below w.heap.size w w':=by
 obtain ⟨W1,hW1⟩:∃ W1,w.alloc (.cells #[.slice a l.length cap,.bool false] 101)=W1:=⟨_,rfl⟩;have b1:Below w.heap.size w W1:=by rw [← hW1];exact (Below.refl _ _).alloc (Nat.le_refl _) _
 have r1:QbM W1 w.heap.size (some l):=by
  refine ⟨a,cap,?_,h.isBN.of b1⟩;rw [← hW1];exact Qes.new _ _ _
 have L0:Qdw (some l):=fun l' e=>by cases e;exact hl
 have R1:RbSt w (.slice none 0 0) [] W1 (some l):=⟨r1,L0,World.ownsRow_nil _ _ _ _,b1⟩;have HC:Hid (Calls _ _ _ _ _):=QiQ w.heap.size (some l) 200 W1 r1 L0 (by omega)
 obtain ⟨ee,hee⟩:∃ ee,balS (some l)=ee:=⟨_,rfl⟩;have Hee:Hid (balS (some l)=ee):=hee;rw [hee];unfold balS at Hee;have L1:=@rdNS_len 0 200 _ L0;have hrg:=@rdNS_range 200 (some l) (by omega)
 generalize Qcj 0 200 (some l)=p1 at *
 obtain ⟨n4,st1⟩:=p1;simp only at Hee HC L1 hrg;obtain ⟨n,hn⟩:∃ n:Nat,n4=n:=⟨n4.toNat,by omega⟩
 subst hn;simp only [Int.toNat_natCast] at Hee;have hl':(l.length:Int)≤9223372036854775807:=by omega
 have HR1:Hid (RbSt w (.slice none 0 0) [] W1 (some l)):=R1;have HL1:Hid (Qdw st1):=L1;have HWW:Hid (_=W1):=hW1;clear h hee r1 b1 L1 L0 hW1 R1;obtain ⟨i0,hi,hz0,hz1,hz2⟩:=info_parts bl_info;go_enter func14,ntmps14
 go_wp2_with fail;rw [HWW.out];clear HWW;refine HC.out.mono ?_;rintro e w1 ⟨rfl,q1,k1⟩;have HR2:Hid (RbSt w (.slice none 0 0) [] w1 st1):=HR1.out.step k1 q1 HL1.out;have hn200:(n:Int)≤200:=by omega
 clear HC q1 k1 HR1 HL1;go_wp2;go_loopw [6,7,11] (fun v _ i wr=>∃ k:Nat,k≤n∧i=.int .i64 k∧Hid (RbSt w v (Qcd k st1).1 wr (Qcd k st1).2)) (fun _ _ i _=>n - (RowKit.intOf i).toNat)
 case atStart=>exact ⟨0,Nat.zero_le _,rfl,HR2⟩
 case round=>
  obtain ⟨k,hk,rfl,R⟩:=hrel;by_cases hlt:k<n
  ·have hfl:=Qgg k st1;have hnx:Qcd (k+1) st1=((Qcd k st1).1++[(blS (Qcd k st1).2).1],if QcP ((Qcd k st1).1++[(blS (Qcd k st1).2).1]) k=0 then (blS (Qcd k st1).2).2 else none):=rfl
   generalize Qcd k st1=pk at *
   obtain ⟨ls,st⟩:=pk;simp only at R hfl hnx;obtain ⟨av,cv,ev,_⟩:=R.out.row.isBl;rw [hfl] at ev;subst ev;have j0:(0:Int)≤k:=by omega
   have j1:(k:Int)<n:=by omega
   have s2:Hid (k+1≤maxLen):=by unfold Hid maxLen;omega
   have s3:Hid ((k+1)*48≤140737488355328):=by unfold Hid;omega
   have HT0:Hid (Calls _ _ _ _ _):=rsmall_any w.heap.size st wr R.out.rd R.out.len;have M0:=@rdNS_len 0 200 st R.out.len;unfold blS at hnx;generalize Qcj 0 200 st=p0 at *
   obtain ⟨x0,s0⟩:=p0;simp only at hnx HT0 M0;have M1:=rdTS_len M0;have HT1:Hid (∀ W,QbM W w.heap.size s0→Calls prog 40 #[.pointer (some ⟨w.heap.size,0,none⟩)] W fun e w'=>e=.returned (.string (Qh2 s0).1)∧QbM w' w.heap.size (Qh2 s0).2∧Qaj w.heap.size W w'):=fun W hW=>rtext_any w.heap.size s0 W hW M0
   generalize Qh2 s0=p1 at *
   obtain ⟨x1,s1⟩:=p1;simp only at hnx HT1 M1;have M2:=rdTS_len M1;have HT2:Hid (∀ W,QbM W w.heap.size s1→Calls prog 40 #[.pointer (some ⟨w.heap.size,0,none⟩)] W fun e w'=>e=.returned (.string (Qh2 s1).1)∧QbM w' w.heap.size (Qh2 s1).2∧Qaj w.heap.size W w'):=fun W hW=>rtext_any w.heap.size s1 W hW M1
   generalize Qh2 s1=p2 at *
   obtain ⟨x2,s2'⟩:=p2;simp only at hnx HT2 M2;have M3:=@rdNS_len (-Qah) Qah s2' M2;have HT3:Hid (∀ W,QbM W w.heap.size s2'→Calls prog 41 #[.pointer (some ⟨w.heap.size,0,none⟩)] W fun e w'=>e=.returned (.int .i64 (Qcj (-Qah) Qah s2').1)∧QbM w' w.heap.size (Qcj (-Qah) Qah s2').2∧Qaj w.heap.size W w'):=fun W hW=>ramount_any w.heap.size s2' W hW M2
   generalize Qcj (-Qah) Qah s2'=p3 at *
   obtain ⟨x3,sN⟩:=p3;simp only at hnx HT3 M3;have Hnx:Hid (Qcd (k+1) st1=_):=hnx;have HM:Hid (Qdw s0∧Qdw s1∧Qdw s2'∧Qdw sN):=⟨M0,M1,M2,M3⟩;clear hnx M0 M1 M2 M3;go_wp2_with fail;refine HT0.out.mono ?_;rintro e u1 ⟨rfl,q1,k1⟩;have HQ1:Hid (RbSt w _ ls u1 s0):=R.out.step k1 q1 HM.out.1;clear HT0 R q1 k1;go_wp2_with fail;refine (HT1.out u1 HQ1.out.rd).mono ?_;rintro e u2 ⟨rfl,q2,k2⟩;have HQ2:Hid (RbSt w _ ls u2 s1):=HQ1.out.step k2 q2 HM.out.2.1
   clear HT1 HQ1 q2 k2;go_wp2_with fail;refine (HT2.out u2 HQ2.out.rd).mono ?_;rintro e u3 ⟨rfl,q3,k3⟩;have HQ3:Hid (RbSt w _ ls u3 s2'):=HQ2.out.step k3 q3 HM.out.2.2.1;clear HT2 HQ2 q3 k3;go_wp2_with fail;refine (HT3.out u3 HQ3.out.rd).mono ?_;rintro e u4 ⟨rfl,q4,k4⟩;have HQ4:Hid (RbSt w _ ls u4 sN):=HQ3.out.step k4 q4 HM.out.2.2.2;clear HT3 HQ3 q4 k4;have hlt4:=HQ4.out.rd.lt;have hoj:=HQ4.out.row.own
   have hown4:World.ownsRow (u4.alloc (.cells #[.int .i64 x0,.string x1,.string x2,.int .i64 x3] 63)) (w.heap.size+1) 63 4 (.slice av k cv) k (Qb2 ls):=by
    have:=World.ownsRow.alloc HQ4.out.row (.cells #[.int .i64 x0,.string x1,.string x2,.int .i64 x3] 63)
    unfold Qba at this;rw [hfl] at this;exact this
   have Hown4:Hid (World.ownsRow _ _ _ _ _ _ _):=hown4;clear hown4;go_wp2_with (at_builtin;refine wpList_append_own _ rfl _ _ 24 rfl (w.heap.size+1) 63 i0 (.agg #[.int .i64 0,.string ByteArray.empty,.string ByteArray.empty,.int .i64 0]) 4 48 underlying24 hi hz0 hz1 hz2 rfl (by decide) _ _ _ rfl Hown4.out ⟨u4.heap.size,0,none⟩ 1 1 [.int .i64 x0,.string x1,.string x2,.int .i64 x3] rfl rfl (cells_bal _ _ _ _ _) (bal_one _ _ _ _) s2.out s3.out (by simp;omega) ?_)
   intro v' u5 hown hgrow _;have hB5:Below (w.heap.size+1) u4 u5:=((Below.refl _ u4).alloc (by omega) (.cells #[.int .i64 x0,.string x1,.string x2,.int .i64 x3] 63)).grown hgrow (by simp;omega) (fun j e=>hoj j e)
   have hrow5:Qba u5 (w.heap.size+1) v' (ls++[⟨x0,x1,x2,x3⟩]):=by
    unfold Qba;rw [Qgb,blRow_one,List.length_append,hfl];exact hown
   obtain ⟨a5,c5,e5,hbl5⟩:=hrow5.isBl;have hl5:(ls++[(⟨x0,x1,x2,x3⟩:Bl)]).length=k+1:=by rw [List.length_append,hfl];rfl
   rw [hl5] at e5;subst e5;have HQ5:Hid (RbSt w (.slice a5 (k+1) c5) (ls++[⟨x0,x1,x2,x3⟩]) u5 sN):=⟨HQ4.out.rd.below hB5,HQ4.out.len,hrow5,HQ4.out.bel.trans (hB5.mono (by omega))⟩
   have hRi:=rises_any a5 c5 k (ls++[⟨x0,x1,x2,x3⟩]) u5 (by rw [hl5];omega) (by rw [hl5];omega) hbl5
   rw [hl5] at hRi;have HRi:Hid (Calls _ _ _ _ _):=hRi;clear hRi hbl5 hrow5 hown hgrow HQ4 Hown4 hB5 hl5;have hro:Qeh (ls++[⟨x0,x1,x2,x3⟩]) k=decide (QcP (ls++[⟨x0,x1,x2,x3⟩]) k=0):=rfl;generalize ls++[⟨x0,x1,x2,x3⟩]=ls' at *
   rw [hro] at HRi;clear hro;by_cases ho:QcP ls' k=0
   ·rw [decide_eq_true ho] at HRi;go_wp2_with fail;refine HRi.out.mono ?_;rintro e u6 ⟨rfl,b6⟩;have HN:Hid (RbSt w (.slice a5 (k+1) c5) (Qcd (k+1) st1).1 u6 (Qcd (k+1) st1).2):=by
     unfold Hid;rw [Hnx.out];simp only;rw [if_pos ho];have hz:=HQ5.out.rd.lt;exact ⟨HQ5.out.rd.below (b6.mono (by omega)),HQ5.out.len,HQ5.out.row.below b6,HQ5.out.bel.trans (b6.mono HQ5.out.bel.size)⟩
    clear HRi HQ5 b6;go_wp2;go_roundw
    case rel=>exact ⟨k+1,by omega,by go_num,HN⟩
    case measure=>simp [RowKit.intOf];omega
   ·rw [decide_eq_false ho] at HRi;go_wp2_with fail;refine HRi.out.mono ?_;rintro e u6 ⟨rfl,b6⟩;have hz:=HQ5.out.rd.lt;have Q6:RbSt w (.slice a5 (k+1) c5) ls' u6 sN:=⟨HQ5.out.rd.below (b6.mono (by omega)),HQ5.out.len,HQ5.out.row.below b6,HQ5.out.bel.trans (b6.mono HQ5.out.bel.size)⟩
    have HF:Hid (Calls prog 42 #[.pointer (some ⟨w.heap.size,0,none⟩)] u6 fun e w'=>e=.returned (.tuple #[])∧QbM w' w.heap.size none∧Qaj w.heap.size u6 w'):=by
     have:∃ v e0,Qes u6 w.heap.size v e0:=by
      have hR:=Q6.rd
      cases sN with
      | none=>exact ⟨_,_,hR⟩
      | some l=>obtain ⟨_,_,x,_⟩:=hR;exact ⟨_,_,x⟩
     obtain ⟨v,e0,x⟩:=this;exact QdH w.heap.size v e0 u6 x
    have HQ6:Hid (RbSt w _ ls' u6 sN):=Q6;clear HRi HQ5 b6 Q6;go_wp2_with fail;refine HF.out.mono ?_;rintro e u7 ⟨rfl,q7,k7⟩;have HN:Hid (RbSt w (.slice a5 (k+1) c5) (Qcd (k+1) st1).1 u7 (Qcd (k+1) st1).2):=by
     unfold Hid;rw [Hnx.out];simp only;rw [if_neg ho];exact HQ6.out.step k7 q7 (fun l hl=>by cases hl)
    clear HF HQ6 q7 k7;go_wp2;go_roundw
    case rel=>exact ⟨k+1,by omega,by go_num,HN⟩
    case measure=>simp [RowKit.intOf];omega
  ·have hk2:k=n:=by omega
   subst hk2;have hR:=R.out;have he1:=Hee.out;generalize Qcd k st1=pk at *
   obtain ⟨ls,st⟩:=pk;simp only at hR he1;subst he1;obtain ⟨av,cv,ev,_⟩:=hR.row.isBl;subst ev;have HR:Hid (RbSt _ _ _ _ _):=hR;clear R Hee
   cases st with
   | none=>
    have c1:=Qes.c1 hR.rd;clear hR;go_wp2;go_ret3;exact ⟨rfl,HR.out.bel⟩
   | some r=>
    obtain ⟨ar,cr,x,_⟩:=hR.rd;have c1:=x.c1;have c0:=x.c0;have hrl:(r.length:Int)≤9223372036854775807:=by have:=hR.len r rfl;omega
    have hwr:IntKind.i64.wrap ((l.length:Int) - r.length)=(l.length:Int) - r.length:=by
     simp only [IntKind.wrap,IntKind.bits,IntKind.signed];simp;omega
    generalize ls.length=m4 at *
    clear hR x;go_wp2_with fail;go_quiet (fail)
    go_wp2;go_ret3;exact ⟨⟨_,rfl,Qba.mono (n:=w.heap.size+1) (HR.out.row.below (QcF (Below.refl _ _) _)) (Nat.le_succ _)⟩,QcF HR.out.bel _⟩
end
section
open Go.RowKit Go.Lib Go.Proofs.Tryz
set_option maxHeartbeats 4000000 in
theorem bytes_any (h:Hd) (w:World) (k:h.ok):Calls prog 66 #[.agg h.cells.toArray] w fun e w'=>∃ v,e=.returned v∧Hid (Qaq w' w.heap.size v (hdB h))∧Hid (Below w.heap.size w w'):=by
 obtain ⟨w0,hw0⟩:∃ w0,w.alloc (.cells h.cells.toArray 80)=w0:=⟨_,rfl⟩;have hb0:w0.heap[w.heap.size]? = some (.cells h.cells.toArray 80 (0,0)):=by rw [← hw0];exact Qai w _
 have hs0:w0.heap.size=w.heap.size+1:=by rw [← hw0];simp
 have B0:Below w.heap.size w w0:=by rw [← hw0];exact (Below.refl _ w).alloc (Nat.le_refl _) _
 have HC:Hid (∀ W:World,W.heap[w.heap.size]? = w0.heap[w.heap.size]?→W.cell? ⟨w.heap.size,1,none⟩=some (.int .u8 (h.turn.toNat:Int))∧W.cell? ⟨w.heap.size,2,none⟩=some (.int .i64 (h.ver:Int))∧QcT W (some ⟨w.heap.size,3,none⟩) h.whr 40):=fun W hW=>by
  have hb:=hW.trans hb0;refine ⟨by rw [cell_of_row W _ _ _ _ (0,0) hb];rfl,by rw [cell_of_row W _ _ _ _ (0,0) hb];rfl,⟨by rw [k.w];exact Nat.le_refl _,.inr ⟨w.heap.size,3,rfl,(Array.getElem?_eq_some_iff.1 hb).1,fun j hj=>?_⟩⟩⟩
  rw [cell_of_row W _ _ _ _ (0,0) hb,List.getElem?_toArray];unfold Hd.cells;rw [show 3+j=((j+1)+1)+1 by omega,List.getElem?_cons_succ,List.getElem?_cons_succ,List.getElem?_cons_succ,Qb0 _ _ hj]
 obtain ⟨c1,_,_⟩:=HC.out w0 rfl;have HB0:Hid (Below w.heap.size w w0):=B0;have hcv:=run_convert_bytes_const (P:=prog) w0 29 5 (byC Qbz).toArray 8 8 underlying29 underlying5;rw [hs0] at hcv;have hv:=k.v;have hw40:=k.w;have HK:Hid h.ok:=k;clear hb0 B0 k;go_enter func66,ntmps66
 obtain ⟨wm,hwm⟩:∃ wm,w0.alloc (.cells (byC Qbz).toArray 5 ((byC Qbz).toArray.size,(byC Qbz).toArray.size+1))=wm:=⟨_,rfl⟩;have Bm:Below w0.heap.size w0 wm:=by rw [← hwm];exact (Below.refl _ w0).alloc (Nat.le_refl _) _
 have hsm:wm.heap.size=w.heap.size+2:=by rw [← hwm];simp [hs0]
 have Hmk:Hid (∀ W:World,Below wm.heap.size wm W→∀ k (h:k<Qbz.length),W.cell? ⟨w.heap.size+1,k,none⟩=some (.int .u8 (Qbz[k]'h).toNat)):=fun W hW k hk=>by
  rw [hW.cell (p:=⟨w.heap.size+1,k,none⟩) (by rw [hsm];exact Nat.lt_succ_self _),← hwm,cell_of_row _ _ _ _ _ ((byC Qbz).toArray.size,(byC Qbz).toArray.size+1) (by rw [← hs0];exact Qai w0 _),List.getElem?_toArray,Qb0 Qbz k hk]
 have c1m:wm.cell? ⟨w.heap.size,1,none⟩=some (.int .u8 (h.turn.toNat:Int)):=(Bm.cell (p:=⟨w.heap.size,1,none⟩) (by rw [hs0];exact Nat.lt_succ_self _)).trans c1
 rw [hwm] at hcv;rw [show (byC Qbz).toArray=#[.int .u8 113,.int .u8 100,.int .u8 32,.int .u8 112,.int .u8 97,.int .u8 103,.int .u8 101,.int .u8 115] from rfl] at hcv
 have HBm:Hid (Below w0.heap.size w0 wm):=Bm;clear hwm Bm;go_wp2_with (first | (at_builtin;refine Qin rfl (.tmp 6) (.tmp 9) rfl w.heap.size (w.heap.size+1) Qbz (w.heap.size+2) [h.turn] 1 8 1 (by rfl) (by rfl) rfl rfl ?c1 ?c2 Nat.zero_lt_one ?c3 (by show 8+1≤1000;decide) (by show Builtin.nextslicecap (8+1) 8*1≤281474976710656;decide) ?_))
 case c1=>exact Hmk.out _ ((Below.refl _ wm).alloc (Nat.le_refl _) _)
 case c2=>
  intro k hk
  have:=(isBy_new wm [h.turn]).lies
  rcases this with e | ⟨b,off,e,_,hc⟩
  ·cases e
  ·cases e
   have:=hc k hk
   rw [Nat.zero_add,hsm] at this;exact this
 case c3=>simp [hsm];omega
 intro v1 w1 hr1 hb1 ho1;have Bt:Below wm.heap.size wm (wm.alloc (.cells #[.int .u8 (h.turn.toNat:Int)] 5)):=(Below.refl _ wm).alloc (Nat.le_refl _) _;have hst:(wm.alloc (.cells #[.int .u8 (h.turn.toNat:Int)] 5)).heap.size=w.heap.size+3:=by simp [hsm]
 have HE1:Hid (Qaq w1 (w.heap.size+1) v1 ((Qbz++[h.turn])++(verB h.ver).take 0)∧Below w.heap.size w w1∧w1.heap[w.heap.size]? = w0.heap[w.heap.size]?∧w.heap.size+1≤w1.heap.size):=by
  have hob:=hb1.size;rw [hst] at hob;have hb1:Below (w.heap.size+3) (wm.alloc (.cells #[.int .u8 (h.turn.toNat:Int)] 5)) w1:=by simpa [hsm] using hb1
  rw [hsm] at Bt;have hBm:=HBm.out;rw [hs0] at hBm;refine ⟨?_,?_,?_,by omega⟩
  ·rw [List.take_zero,List.append_nil];obtain ⟨hlen,⟨rfl,h0⟩ | ⟨g,cap,cur,rfl,hb,r⟩⟩:=hr1
   ·cases ho1
   ·cases ho1;refine ⟨hlen,.inr ⟨_,cap,cur,rfl,?_,r⟩⟩;show w.heap.size+1≤w.heap.size+2+1;omega
  ·exact HB0.out.trans (((hBm.mono (by omega)).trans (Bt.mono (by omega))).trans (hb1.mono (by omega)))
  ·rw [hb1.block _ (by omega),Bt.block _ (by omega),hBm.block _ (by omega)]
 clear hr1 hb1 ho1 Bt hst c1m hcv Hmk HBm c1;go_wp2;go_loopw [3,4] (fun v sh wr=>∃ i:Nat,i≤8∧sh=.int .i64 (56 - 8*(i:Int))∧Hid (Qaq wr (w.heap.size+1) v ((Qbz++[h.turn])++(verB h.ver).take i)∧Below w.heap.size w wr∧wr.heap[w.heap.size]? = w0.heap[w.heap.size]?∧w.heap.size+1≤wr.heap.size)) (fun _ sh _=>(RowKit.intOf sh+8).toNat)
 case atStart=>exact ⟨0,by omega,rfl,HE1⟩
 case round=>
  obtain ⟨i,hi,rfl,H⟩:=hrel;by_cases hlt:i<8
  ·obtain ⟨r1,r2,r3,r4⟩:=H.out;obtain ⟨_,c2,_⟩:=HC.out wr r3;have i0:(0:Int)≤i:=by omega
   have i1:(i:Int)<8:=by omega
   have hsh:(0:Int)≤56 - 8*(i:Int):=by omega
   have hsh2:56 - 8*(i:Int)≤56:=by omega
   have HR:Hid (Qaq wr (w.heap.size+1) _ ((Qbz++[h.turn])++(verB h.ver).take i)):=r1;have Hrest:Hid (Below w.heap.size w wr∧wr.heap[w.heap.size]? = w0.heap[w.heap.size]?):=⟨r2,r3⟩;have hvt:=verB_take h.ver i hlt;have hby:((UInt8.ofNat (h.ver / 2 ^ (56 - 8*i))).toNat:Int)=(h.ver:Int) / 2 ^ (56 - 8*i) % 256:=by
    rw [UInt8.toNat_ofNat',show (2:Int) ^ (56 - 8*i)=((2 ^ (56 - 8*i):Nat):Int) by simp,← Int.natCast_ediv]
    omega
   have Hvt:Hid ((verB h.ver).take (i+1)=(verB h.ver).take i++[UInt8.ofNat (h.ver / 2 ^ (56 - 8*i))]∧((UInt8.ofNat (h.ver / 2 ^ (56 - 8*i))).toNat:Int)=(h.ver:Int) / 2 ^ (56 - 8*i) % 256):=⟨hvt,hby⟩;have Htl:Hid (((Qbz++[h.turn])++(verB h.ver).take i).length≤100):=by
    unfold Hid;simp [Qbz,Qbe];omega
   clear H r1 r2 r3 hvt hby;go_wp2_with (at_builtin;refine Qdf rfl (.tmp 15) (.tmp 21) rfl (w.heap.size+1) _ ((Qbz++[h.turn])++(verB h.ver).take i) (some ⟨wr.heap.size,0,none⟩) [UInt8.ofNat (h.ver / 2 ^ (56 - 8*i))] 1 1 (by rfl) (by rfl) rfl (HR.out.below ((Below.refl _ wr).alloc (Nat.le_refl _) _)) ?c2 (.inr (by simp)) ?c3 ?c4 ?_)
   case c2=>
    have:=isBy_new wr [UInt8.ofNat (h.ver / 2 ^ (56 - 8*i))]
    rw [show (byC [UInt8.ofNat (h.ver / 2 ^ (56 - 8*i))]).toArray=#[.int .u8 ((h.ver:Int) / 2 ^ (56 - 8*i) % 256)] by rw [← Hvt.out.2];rfl] at this
    exact this
   case c3=>simp;omega
   case c4=>have:=Htl.out;simp at this ⊢;omega
   intro v2 w2 hr2 hb2 ho2;have HE2:Hid (Qaq w2 (w.heap.size+1) v2 ((Qbz++[h.turn])++(verB h.ver).take (i+1))∧Below w.heap.size w w2∧w2.heap[w.heap.size]? = w0.heap[w.heap.size]?∧w.heap.size+1≤w2.heap.size):=by
    refine ⟨by rw [Hvt.out.1,← List.append_assoc];exact hr2,?_,?_,?_⟩
    ·exact (Hrest.out.1.alloc Hrest.out.1.size _).trans (hb2.mono (Nat.le_succ _))
    ·rw [hb2.block _ (Nat.lt_succ_self _),Below.heap_alloc _ _ _ (by omega)]
     exact Hrest.out.2
    ·have:=hb2.size;simp at this;omega
   clear hr2 hb2 ho2 HR Hrest Hvt Htl;go_wp2;go_roundw
   case rel=>exact ⟨i+1,by omega,by first | (congr 1;omega) | go_num,HE2⟩
   case measure=>simp [RowKit.intOf];omega
  ·have ei:i=8:=by omega
   subst ei;obtain ⟨r1,r2,r3,r4⟩:=H.out;obtain ⟨_,_,hw⟩:=HC.out wr r3;have HR:Hid (Qaq wr (w.heap.size+1) _ ((Qbz++[h.turn])++(verB h.ver).take 8)):=r1;have HW:Hid (QcT wr (some ⟨w.heap.size,3,none⟩) h.whr 40):=hw;have Hrest:Hid (Below w.heap.size w wr):=r2;clear H r1 r2 r3 hw;go_wp2_with (at_builtin;refine Qdf rfl (.tmp 23) (.tmp 25) rfl (w.heap.size+1) _ ((Qbz++[h.turn])++(verB h.ver).take 8) (some ⟨w.heap.size,3,none⟩) h.whr 40 40 (by rfl) (by rfl) hw40 HR.out HW.out (.inr (by simp)) ?c3 ?c4 ?_)
   case c3=>omega
   case c4=>simp [Qbz,Qbe,hw40]
   intro v2 w2 hr2 hb2 ho2;have HE2:Hid (Qaq w2 w.heap.size v2 (hdB h)∧Below w.heap.size w w2):=by
    refine ⟨?_,Hrest.out.trans (hb2.mono (Nat.le_succ _))⟩;rw [List.take_of_length_le (by rw [Qbe];exact Nat.le_refl _)] at hr2
    obtain ⟨hlen,hr | ⟨g,cap,cur,e,hb,r⟩⟩:=hr2
    ·exact ⟨hlen,.inl hr⟩
    ·exact ⟨hlen,.inr ⟨g,cap,cur,e,by omega,r⟩⟩
   clear hr2 hb2 ho2 HR HW Hrest;go_wp2;go_ret;exact ⟨_,rfl,HE2.out.1,HE2.out.2⟩
end
section
open Go.RowKit Go.Lib Go.Proofs.Tryz
def pgB (l:List UInt8):List UInt8:=[UInt8.ofNat l.length]++l
theorem Qio (l:List UInt8):(pgB l).length=l.length+1:=by simp [pgB]
section
variable {w W:World} {p nb sb:Nat} {cv:Value} {n:Nat} {D:Dk}
set_option maxHeartbeats 2000000 in
theorem writePage_any (a:Tn w W p nb sb cv n D) (i:Nat) (ad:Option Addr) (l:List UInt8) (cap:Nat) (hB:QcT W ad l cap) (hc:cap=0∨ad≠none) (hl:l.length≤60) (hf:D.failing=false) (hi:i<n) (hn:n≤200) (hs0:D.steps≤1000000) (hc0:D.chg.length≤1000000) :
  Calls prog 68 #[.pointer (some ⟨p,0,none⟩),.int .i64 (i:Int),.slice ad l.length cap] W fun e w'=>e=.returned .nilIface∧∃ cv',Hid (Tn w w' p nb sb cv' n (D.write i (pgB l)))∧Hid (Qan w.heap.size dkT W w'):=by
 have HB:Hid (QcT W ad l cap):=hB;have hl0:(0:Int)≤l.length:=by omega
 have hl1:(l.length:Int)≤60:=by omega
 have HW:Hid (∀ U a' c',Below W.heap.size W U→QcT U a' (pgB l) c'→Calls prog 65 #[.pointer (some ⟨p,0,none⟩),.int .i64 (i:Int),.slice a' (pgB l).length c'] U fun e w'=>e=.returned .nilIface∧∃ cv',Hid (Tn w w' p nb sb cv' n (D.write i (pgB l)))∧Hid (Qan w.heap.size dkT W w')):=fun U a' c' hU hb=>by
  refine (tn_write (a.below hU) i a' (pgB l) c' hf hi (by rw [Qio];omega) hn hs0 hc0 hb).mono ?_
  rintro e w' ⟨rfl,cv',h1,h2⟩;exact ⟨rfl,cv',h1,(Qan.of_below hU).trans h2.out⟩
 have hby:((UInt8.ofNat l.length).toNat:Int)=(l.length:Int):=by
  rw [UInt8.toNat_ofNat'];omega
 have Hby:Hid (((UInt8.ofNat l.length).toNat:Int)=(l.length:Int)):=hby;have hwr:IntKind.u8.wrap (l.length:Int)=(l.length:Int):=by rw [IntKind.wrap_u8];omega
 clear hB a hby;go_enter func68,ntmps68
 go_wp2_with (at_builtin;refine Qdf rfl (.tmp 12) (.tmp 13) rfl W.heap.size (.slice (some ⟨W.heap.size,0,none⟩) 1 1) [UInt8.ofNat l.length] ad l l.length cap (by rfl) (by rfl) rfl ?c1 (HB.out.below ((Below.refl _ W).alloc (Nat.le_refl _) _)) hc ?c2 ?c3 ?_)
 case c1=>
  have:=byRow_new W [UInt8.ofNat l.length] W.heap.size (Nat.le_refl _) (by simp)
  rw [show (byC [UInt8.ofNat l.length]).toArray=#[.int .u8 (l.length:Int)] by rw [← Hby.out];rfl] at this
  exact this
 case c2=>simp
 case c3=>simp;omega
 intro v2 w2 hr2 hb2 _;obtain ⟨a',c',rfl,hby⟩:=hr2.isBy;have hbb:Below W.heap.size W w2:=((Below.refl _ W).alloc (Nat.le_refl _) _).trans hb2;have HC:Hid (Calls _ _ _ w2 _):=HW.out w2 a' c' hbb hby;clear hr2 hb2 hby hbb HW HB;rw [show (UInt8.ofNat l.length :: l).length=(pgB l).length from rfl]
 go_wp2_with fail;refine HC.out.mono ?_;rintro e w' ⟨rfl,cv',h1,h2⟩;go_wp2;go_ret;exact ⟨rfl,cv',h1,h2⟩
def pgAt (D:Dk) (i:Nat) (l:List UInt8):Prop:=D.now.getD i bk0=⟨QdN (pgB l),false⟩
theorem readPage_any (a:Tn w W p nb sb cv n D) (i:Nat) (hi:i<n) (l:List UInt8) (hl:l.length≤60) (hp:pgAt D i l) :
  Calls prog 37 #[.pointer (some ⟨p,0,none⟩),.int .i64 (i:Int)] W fun e w'=>∃ ad cap,e=.returned (.tuple #[.slice ad l.length cap,.nilIface])∧Hid (QcT w' ad l cap)∧Hid (Below W.heap.size W w')∧ad≠none:=by
 have HR:Hid (Calls _ _ _ _ _):=tn_read a i hi (by rw [hp])
 rw [show (D.now.getD i bk0).byt=QdN (pgB l) by rw [hp]] at HR
 clear a hp;have hl0:(0:Int)≤l.length:=by omega
 have hl1:(l.length:Int)≤60:=by omega
 have hby:((UInt8.ofNat l.length).toNat:Int)=(l.length:Int):=by
  rw [UInt8.toNat_ofNat'];omega
 go_enter func37,ntmps37
 go_wp2_with fail;refine HR.out.mono ?_;rintro e w1 ⟨rfl,_,hrow,hb⟩;have c0:w1.cell? ⟨W.heap.size,0,none⟩=some (.int .u8 (l.length:Int)):=by
  rw [cell_of_row _ _ _ _ _ (0,0) hrow.out,← hby];rfl
 have HE:Hid (QcT w1 (some ⟨W.heap.size,1,none⟩) l 63):=by
  refine ⟨by omega,.inr ⟨W.heap.size,1,rfl,(Array.getElem?_eq_some_iff.1 hrow.out).1,fun k hk=>?_⟩⟩
  rw [cell_of_row _ _ _ _ _ (0,0) hrow.out,List.getElem?_toArray,Nat.add_comm 1 k];have hk1:k+1<(QdN (pgB l)).length:=by rw [QeI _ (by rw [Qio];omega)];omega
  rw [Qb0 _ _ hk1];congr 3;have hk2:k<(l++List.replicate (64 - (pgB l).length) 0).length:=by simp;omega
  have:(QdN (pgB l))[k+1]=(l++List.replicate (64 - (pgB l).length) 0)[k]:=by
   simp [QdN,pgB]
  rw [this,List.getElem_append_left hk]
 clear HR hby hrow;go_wp2;rw [show 1+l.length - 1=l.length by omega]
 go_ret2;exact ⟨_,_,rfl,HE,hb,by simp⟩
end
end
end Go.Proofs.YtjifbbdkpanagaaGreatDoor
