/-
  Balances in pages are the balances: for all entries that are, with a period, together of at most 1048576 values and letters the call of daytop.TopPages returns true, and its arguments read as they did. The library's tables are as the program's text lays them (the card ties them). The card, narrowed to what is no greater than that.
-/
import Derived.Test.YtjifbbdkpanagaaGreatDoorZd45
import Derived.Test.YtjifbbdkpanagaaGreatDoorCards
import Derived.Test.YtjifbbdkpanagaaGreatDoorTie
import Derived.SevenTiedAt
import Derived.ProofKit
import Derived.ShutString
import Derived.Deep.DeepHandedRow
import Derived.Stop.LaidErr
import Derived.Shelf.Vars
set_option linter.unusedVariables false
set_option linter.unusedSimpArgs false
set_option maxRecDepth 100000
namespace Go.Proofs.YtjifbbdkpanagaaGreatDoor
section
open Go.RowKit Go.Lib Go.Proofs.Tryz
def TpAt (wd:World) (p s:Nat) (bs:List UInt8) (k:Nat) (W:World):Prop:=∃ nb sb cv mb P,QbF wd W p nb sb cv 90 (fmtD 90) s mb (Qh3 none) P false∧PutP bs k P
def TgAt (wd:World) (s:Nat) (bs:List UInt8) (W:World):Prop:=∃ p nb sb cv D mb h,QbF wd W p nb sb cv 90 D s mb h [] false∧Gd D 90 h (Qdu bs)
section
variable {wd W:World} {p s k:Nat} {bs:List UInt8}
theorem TpAt.lo (h:TpAt wd p s bs k W):Below wd.heap.size wd W:=by obtain ⟨_,_,_,_,_,h,_⟩:=h;exact h.tn.2
theorem TgAt.lo (h:TgAt wd s bs W):Below wd.heap.size wd W:=by obtain ⟨_,_,_,_,_,_,_,h,_⟩:=h;exact h.tn.2
theorem TgAt.below {U:World} (h:TgAt wd s bs W) (hb:Below W.heap.size W U):TgAt wd s bs U:=by
 obtain ⟨p,nb,sb,cv,D,mb,h',h1,h2⟩:=h;exact ⟨p,nb,sb,cv,D,mb,h',h1.below hb,h2⟩
theorem TpAt.put (h:TpAt wd p s bs k W) (hk:k<40) (b o cap:Nat) (hB:QcT W (some ⟨b,o,none⟩) bs cap) :
  Calls prog 10 #[.pointer (some ⟨s,0,none⟩),.int .i64 (k:Int),.slice (some ⟨b,o+k*60,none⟩) (Qdu bs k).length (cap - k*60)] W fun e w'=>e=.returned .nilIface∧Hid (TpAt wd p s bs (k+1) w'):=by
 obtain ⟨nb,sb,cv,mb,P,h1,h2⟩:=h;refine (stPut_ok h1 k hk _ (Qdu bs k) _ (hB.page k) (.inr (by simp)) (cutP_len bs k)).mono ?_
 rintro e w' ⟨rfl,hh,_⟩;exact ⟨rfl,nb,sb,cv,mb,_,hh.out,h2.next⟩
theorem TpAt.commit (h:TpAt wd p s bs k W) (hk:bs.length≤k*60) :
  Calls prog 11 #[.pointer (some ⟨s,0,none⟩)] W fun e w'=>e=.returned .nilIface∧∃ nb sb cv D h,Hid (Tn wd w' p nb sb cv 90 D∧Gd (D.crash [] 0) 90 h (Qdu bs)∧D.chg.length≤1000000):=by
 obtain ⟨nb,sb,cv,mb,P,h1,h2⟩:=h;obtain ⟨ef,en,ff,fl⟩:=fmtD_eq 90;have hv:(Qh3 none).ver+1≤1000000:=by show 0+1≤1000000;omega
 refine (commit_ok h1 (by rw [ff];decide) (fl.mono (by omega)) (by omega) (by omega) h2.len hv).mono ?_
 rintro e w' ⟨rfl,cv',hh,_⟩;refine ⟨rfl,nb,sb,cv',_,nxH (Qh3 none) P,hh.out.tn,?_,?_⟩
 ·have g:=gd_crash (fmt_gd 90 (by omega)) (by omega) P h2.len hv
  have e2:(fun j=>(look P j).getD [])=Qdu bs:=funext fun j=>h2.all hk j
  rw [e2] at g;exact g
 ·have e3:(nxD (fmtD 90) (Qh3 none) P).chg=[]:=by
   unfold nxD;rw [Qfv (by rw [Qdm];show (fmtD 90).fail<0;rw [ff];decide)]
   rfl
  rw [e3];simp
theorem tp_crash {nb sb:Nat} {cv:Value} {D:Dk} (h:Tn wd W p nb sb cv 90 D) (hc:D.chg.length≤1000000) :
  Calls prog 12 #[.pointer (some ⟨p,0,none⟩),.slice none 0 0,.int .i64 0] W fun e w'=>e=.returned (.tuple #[])∧Hid (Tn wd w' p nb sb (.slice none 0 0) 90 (D.crash [] 0)):=by
 refine (tn_crash h none [] 0 0 hc (by simp) ⟨Nat.le_refl _,.inl rfl⟩).mono ?_
 rintro e w' ⟨rfl,h1,_⟩;exact ⟨rfl,h1⟩
theorem tp_open {nb sb:Nat} {cv:Value} {D:Dk} {h:Hd} (a:Tn wd W p nb sb cv 90 D) (g:Gd D 90 h (Qdu bs)) :
  Calls prog 9 #[.pointer (some ⟨p,0,none⟩)] W fun e w'=>∃ s,e=.returned (.tuple #[.pointer (some ⟨s,0,none⟩),.nilIface])∧Hid (TgAt wd s bs w'):=by
 obtain ⟨o0,o1,g0,g1,gx⟩:=g.heads;refine (open_some a (by omega) o0 o1 g0 g1 h gx).mono ?_
 rintro e w' ⟨s,mb,rfl,h1,_⟩;exact ⟨s,rfl,p,nb,sb,cv,D,mb,h,h1.out,g⟩
theorem TgAt.get (h:TgAt wd s bs W) (hk:k<40) :
  Calls prog 13 #[.pointer (some ⟨s,0,none⟩),.int .i64 (k:Int)] W fun e w'=>∃ ad cap,e=.returned (.tuple #[.slice ad (Qdu bs k).length cap,.nilIface])∧Hid (QcT w' ad (Qdu bs k) cap∧Below W.heap.size W w'):=by
 obtain ⟨p,nb,sb,cv,D,mb,h',h1,h2⟩:=h;refine (get_any h1 k hk (Qdu bs k) (h2.pg.2 k hk) (fun k l e=>by simp [look] at e)).mono ?_
 rintro e w' ⟨ad,cap,rfl,q1,q2⟩;exact ⟨ad,cap,rfl,q1.out,q2.out⟩
end
end
section
open Go.RowKit Go.Lib Go.Proofs.Tryz
theorem tp_under:prog.underlying 29=some (.slice (prog.elem 29)):=by kernel_rfl
theorem tp_size:(sizeOf (prog.elem 29)).run prog=fun W=>.ok 1 W:=by kernel_rfl
theorem run_page (b o L cap k m:Nat) (hk:k<m) (hm:m≤cap) (W:World):(Instr.slice 29 (.slice (some ⟨b,o,none⟩) L cap) (some (.int .i64 (k:Int))) (some (.int .i64 (m:Int))) none).run prog W=.ok (.slice (some ⟨b,o+k,none⟩) (m - k) (cap - k)) W:=by
 rw [run_slice_lh W 29 (some ⟨b,o,none⟩) L cap tp_under .i64 .i64 k m (by omega) (by omega) (by omega),tp_size]
 have h:¬ cap=k:=by omega
 simp [Result.andThen,sliced,h,Addr.add_mid]
theorem tp_by:(prog.info? 5).map (fun i=>(i.zero,i.size,i.bytes))=some (some (.int .u8 0),1,1):=by kernel_rfl
theorem run_appZ (w:World) (ty:TypeId) (base:Nat) (v:Value) (l:List UInt8) (ad:Option Addr) (m:List UInt8) (cap:Nat) (hr:Qaq w base v l) (hm:QcT w ad m cap) (hb:base≤w.heap.size) (hlen:l.length+m.length≤1000000) :
  ∃ v' w',(Builtin.append_ #[29,29] ty #[v,.slice ad m.length cap]).run prog w=.ok v' w'∧Qaq w' base v' (l++m)∧Below base w w':=by
 by_cases h0:m=[]
 ·subst h0;obtain ⟨a,c,rfl,hs⟩:=hr.isBy;have hc:=hs.cap;refine ⟨_,w,?_,by rw [List.append_nil];exact hr,Below.refl _ _⟩
  have hz:(Go.sizeOf 5).run prog w=.ok 1 w:=by
   obtain ⟨i,hi,hz0,hz1,hz2⟩:=info_parts tp_by;simp [sizeOf,typeInfo,hi,hz1]
  have ht:prog.underlying 29=some (.slice 5):=underlying29;cases a <;> cases ad <;> simp [Builtin.append_,run_underlying ht,hz,Builtin.lenOf,Builtin.firstCells,loadCells,loadCellsFrom,storeCells,hc]
 ·have h1:ad≠none:=by
   rcases hm.lies with e | ⟨b,off,e,_⟩
   ·exact absurd e h0
   ·rw [e];simp
  obtain ⟨v',w',q1,q2,q3,_⟩:=run_appB w ty base v l ad m cap hr hm (.inr h1) hb hlen;exact ⟨v',w',q1,q2,q3⟩
theorem wpList_appZ {w:World} {ops:Array Oper} {rest:List Oper} {o:Oper} {a:Act} {Q:Exit→Act→World→Prop} (hgd:o.guard=none) (d s:Operand) (ho:o.op=.call { callee:=.builtin .append,args:=#[d,s],argTypes:=#[29,29] })
  (base:Nat) (v:Value) (l:List UInt8) (ad:Option Addr) (m:List UInt8) (k cap:Nat) (hd:a.eval d=v) (hs:a.eval s=.slice ad k cap) (hk:m.length=k) (hr:Qaq w base v l) (hm:QcT w ad m cap) (hb:base≤w.heap.size) (hlen:l.length+m.length≤1000000)
  (h:∀ v' w',Qaq w' base v' (l++m)→Below base w w'→wpList prog ops Q rest (a.put o.dst v') w'):wpList prog ops Q (o :: rest) a w:=by
 subst hk;obtain ⟨v',w',h1,h2,h3⟩:=run_appZ w o.type base v l ad m cap hr hm hb hlen;exact wpList_append_run hgd d s 29 29 ho v _ hd hs h1 (h v' w' h2 h3)
def TbEnd (w:World) (e:Ending) (w':World):Prop:=
 (∃ n v,e=.returned (.tuple #[v,.iface 66 (.int .i64 n)])∧v=.slice none 0 0∧Hid (Below w.heap.size w w')) ∨
 (∃ sa sc R,e=.returned (.tuple #[.slice sa R.length sc,.nilIface])∧Hid (Below w.heap.size w w'∧Qcn w' sa R sc∧R.length≤200∧∀ x∈R,I64B x))
theorem tp_bal (w U:World) (a:Option Addr) (cap:Nat) (L:List Je) (pe:Int) (hU:Below w.heap.size w U) (h:Qha w a L cap) (hok:JsOk L) (hlen:L.length≤9223372036854775807) :
  Calls prog 5 #[.slice a L.length cap,.int .i64 pe] U (TbEnd w):=by
 refine (QfZ a cap L U pe hlen (h.below hU) hok).mono ?_;rintro e w' (⟨_,rfl,hb⟩ | ⟨_,sa,sc,R,rfl,hh⟩)
 ·exact .inl ⟨_,_,rfl,rfl,hU.trans (hb.out.mono hU.size)⟩
 ·refine .inr ⟨sa,sc,R,rfl,hU.trans (hh.out.1.mono hU.size),hh.out.2.1,hh.out.2.2.len,fun x hx=>?_⟩
  have k:=hh.out.2.2.ok x hx;exact ⟨k.key.ent,k.amt⟩
def TfEnd (U:World) (R:List Bl) (e:Ending) (w':World):Prop:=
 (∃ n v,e=.returned (.tuple #[v,.iface 66 (.int .i64 n)])∧v=.slice none 0 0∧Hid (Below U.heap.size U w')) ∨
 (∃ b o c bs,e=.returned (.tuple #[.slice (some ⟨b,o,none⟩) bs.length c,.nilIface])∧Hid (Below U.heap.size U w'∧QcT w' (some ⟨b,o,none⟩) bs c∧balS (some bs)=(R,some [])))
theorem tp_bytes (U:World) (a:Option Addr) (cap:Nat) (R:List Bl) (h:Qcn U a R cap) (hl:R.length≤200) (hR:∀ x∈R,I64B x) :
  Calls prog 6 #[.slice a R.length cap] U (TfEnd U R):=by
 refine (fBalances_any a cap R U (by unfold maxLen;omega) hR h).mono ?_
 rintro e w' ⟨⟨h0,rfl⟩ | ⟨h0,v,rfl,hr⟩,hb⟩
 ·exact .inl ⟨Qf8 R,_,by rw [QaF h0],rfl,hb⟩
 ·obtain ⟨fa,c,rfl,hy⟩:=hr.isBy;have hp:=balB_pos R;have hS:balS (some (balB R))=(R,some []):=by
   have:=balS_enc R [] (Qg1.1 h0)
   rwa [List.append_nil] at this
  rcases hy.lies with e0 | ⟨b,o,rfl,_,_⟩
  ·rw [e0] at hp;simp at hp
  ·exact .inr ⟨b,o,c,balB R,rfl,hb,hy,hS⟩
theorem tp_read (U:World) (a:Option Addr) (cap:Nat) (bs:List UInt8) (R:List Bl) (h:QcT U a bs cap) (hl:bs.length≤2400) (hS:balS (some bs)=(R,some [])) :
  Calls prog 14 #[.slice a bs.length cap] U fun e w'=>∃ ra rc,e=.returned (.tuple #[.slice ra R.length rc,.int .i64 (bs.length:Int),.nilIface])∧Hid (Below U.heap.size U w'∧Qcn w' ra R rc):=by
 refine (fReadBals_any a cap bs U (by omega) h).mono ?_
 rintro e w' ⟨⟨h0,_⟩ | ⟨r,v,h0,rfl,hv⟩,hb⟩
 ·rw [hS] at h0;cases h0
 ·rw [hS] at h0 hv;cases h0;obtain ⟨ra,rc,rfl,hs⟩:=hv.isBl;exact ⟨ra,rc,by simp,hb,hs⟩
set_option maxHeartbeats 16000000 in
theorem pages_walk (a:Option Addr) (cap:Nat) (L:List Je) (pe:Int) (w:World) (h:Qha w a L cap) (hok:JsOk L) (hlen:L.length≤9223372036854775807) (ht:Qh9 w) :
  Calls prog 3 #[.slice a L.length cap,.int .i64 pe] w fun e w'=>e=.returned (.bool true)∧Below w.heap.size w w':=by
 have HOn:Hid (Calls _ _ _ _ _):=one_any w ht;have HBa:Hid (∀ U,Below w.heap.size w U→Calls prog 5 #[.slice a L.length cap,.int .i64 pe] U (TbEnd w)):=fun U hU=>tp_bal w U a cap L pe hU h hok hlen
 have HFm:Hid (∀ wd W p nb sb cv,Tn wd W p nb sb cv 90 (dk0 90)→Calls prog 8 #[.pointer (some ⟨p,0,none⟩)] W fun e w'=>e=.returned .nilIface∧∃ cv',Hid (Tn wd w' p nb sb cv' 90 (fmtD 90))):=fun wd W p nb sb cv hW=>by
  obtain ⟨ef,_⟩:=fmtD_eq 90;have hz:∀ i,i<90→(dk0 90).now.getD i bk0=bk0:=fun i hi=>by
   show (List.replicate 90 bk0).getD i bk0=bk0;rw [List.getD_eq_getElem?_getD,List.getElem?_replicate,if_pos hi];rfl
  refine (format_any hW (by omega) (by omega) ⟨by show 0≤999980;omega,by show 0≤999980;omega⟩ none none (.inr (hz 0 (by omega))) (.inr (hz 1 (by omega)))).mono ?_
  rw [show QbC none none=none from rfl,ef]
  rintro e w' ⟨rfl,cv',h1,_⟩;exact ⟨rfl,cv',h1⟩
 have HOp:Hid (∀ wd W p nb sb cv bs,Tn wd W p nb sb cv 90 (fmtD 90)→Calls prog 9 #[.pointer (some ⟨p,0,none⟩)] W fun e w'=>∃ s,e=.returned (.tuple #[.pointer (some ⟨s,0,none⟩),.nilIface])∧Hid (TpAt wd p s bs 0 w')):=fun wd W p nb sb cv bs hW=>by
  obtain ⟨h0,h1⟩:=QiJ 90 (by omega)
  refine (open_some hW (by omega) none (some (Qh3 none)) h0 h1 (Qh3 none) rfl).mono ?_
  rintro e w' ⟨s,mb,rfl,h1,_⟩;exact ⟨s,rfl,nb,sb,cv,mb,[],h1.out,PutP.zero bs⟩
 clear h hok hlen ht;go_enter func3,ntmps3
 go_wp2_with fail;refine HOn.out.mono ?_;rintro e w1 ⟨rfl,hb1⟩;have HB1:Hid (Calls _ _ _ _ _):=HBa.out w1 hb1;clear HOn HBa hb1;go_wp2_with fail;refine HB1.out.mono ?_;rintro e w2 (⟨n2,v2,rfl,rfl,h2⟩ | ⟨sa,sc,R,rfl,h2⟩)
 ·clear HB1 HFm HOp;go_wp2;go_ret;exact ⟨rfl,h2.out⟩
 have HFb:Hid (Calls _ _ _ _ _):=tp_bytes w2 sa sc R h2.out.2.1 h2.out.2.2.1 h2.out.2.2.2;clear HB1;go_wp2_with fail;refine HFb.out.mono ?_;rintro e w3 (⟨n3,v3,rfl,rfl,h3⟩ | ⟨fb,fo,fc,bs,rfl,h3⟩)
 ·have HB3:Hid (Below w.heap.size w w3):=h2.out.1.trans (h3.out.mono h2.out.1.size);clear HFb HFm HOp h2 h3;go_wp2;go_ret;exact ⟨rfl,HB3.out⟩
 have HB3:Hid (Below w.heap.size w w3):=h2.out.1.trans (h3.out.1.mono h2.out.1.size);have HBl:Hid (Qcn w3 sa R sc∧R.length≤200):=⟨h2.out.2.1.below h3.out.1,h2.out.2.2.1⟩;have HBy:Hid (QcT w3 (some ⟨fb,fo,none⟩) bs fc):=h3.out.2.1;have HS:Hid (balS (some bs)=(R,some [])):=h3.out.2.2;have hcap:=h3.out.2.1.cap;clear HFb h2 h3;by_cases h24:2400<bs.length
 ·have i1:(2400:Int)<bs.length:=by omega
  clear HFm HOp HBl HBy HS;go_wp2;go_ret;exact ⟨rfl,HB3.out⟩
 have i1:¬ (2400:Int)<bs.length:=by omega
 have HNew:Hid (Calls _ _ _ w3 _):=tn_new 90 w3 (by omega) (by omega)
 go_wp2_with fail;refine HNew.out.mono ?_;rintro e w4 ⟨p,nb,sb,rfl,h4⟩;have HF4:Hid (Calls _ _ _ w4 _):=HFm.out w3 w4 p nb sb _ h4.out;clear HNew HFm h4;go_wp2_with fail;refine HF4.out.mono ?_;rintro e w5 ⟨rfl,cv5,h5⟩;have HO5:Hid (Calls _ _ _ w5 _):=HOp.out w3 w5 p nb sb cv5 bs h5.out;clear HF4 HOp h5;go_wp2_with fail;refine HO5.out.mono ?_;rintro e w6 ⟨s,rfl,HT6⟩;clear HO5;have l0:(0:Int)≤bs.length:=by omega
 have l24:bs.length≤2400:=by omega
 have HLn:Hid (bs.length≤2400):=l24;go_wp2_with fail;go_loopw [14] (fun i wr=>∃ k:Nat,k*60<bs.length+60∧i=.int .i64 k∧Hid (TpAt w3 p s bs k wr)) (fun i _=>41 - (RowKit.intOf i).toNat)
 case atStart=>exact ⟨0,by omega,rfl,HT6⟩
 case round=>
  obtain ⟨k,hk,rfl,HT⟩:=hrel;clear HT6;have hk41:k≤40:=by omega
  obtain ⟨kk,hkk⟩:∃ kk:Nat,k*60=kk:=⟨_,rfl⟩;have hm1:IntKind.i64.wrap ((k:Int)*60)=((kk:Nat):Int):=by
   simp only [IntKind.wrap,IntKind.bits,IntKind.signed];simp;omega
  have hm2:IntKind.i64.wrap (((kk:Nat):Int)+60)=((kk+60:Nat):Int):=by
   simp only [IntKind.wrap,IntKind.bits,IntKind.signed];simp;omega
  by_cases hlt:kk<bs.length
  ·have HPu:Hid (Calls _ _ _ _ _):=HT.out.put (by omega) fb fo fc (HBy.out.below HT.out.lo)
   have hcl:(Qdu bs k).length=min 60 (bs.length - kk):=by rw [QeP,hkk]
   rw [hkk] at HPu;obtain ⟨m,hm⟩:∃ m,(Qdu bs k).length=m:=⟨_,rfl⟩;rw [hm] at HPu hcl;have hsl:=fun U=>run_page fb fo bs.length fc kk (kk+m) (by omega) (by omega) U
   rw [show kk+m - kk=m by omega] at hsl
   have q0:((kk:Nat):Int)<bs.length:=by omega
   obtain ⟨t6,ht6⟩:∃ t6:Nat,kk+60=t6:=⟨_,rfl⟩;rw [ht6] at hm2;obtain ⟨tt,htt⟩:∃ tt:Nat,kk+m=tt:=⟨_,rfl⟩;rw [htt] at hsl;have HNx:Hid ((k+1)*60<bs.length+60):=by unfold Hid;omega
   clear hm HT;go_upto_if 83 with fail
   go_cut [15] from 70 to 95 (fun t wx=>t=.int .i64 ((tt:Nat):Int)∧wx=wr)
   case first=>
    clear HPu hsl HBl HBy HS HB3;by_cases hc:bs.length<t6
    ·have c1:((bs.length:Nat):Int)<((t6:Nat):Int):=by omega
     have c2:tt=bs.length:=by omega
     subst c2;clear hcl htt ht6;go_wp2;go_meet
     case rel=>exact ⟨rfl,rfl⟩
    ·have c1:¬ ((bs.length:Nat):Int)<((t6:Nat):Int):=by omega
     have c2:tt=t6:=by omega
     subst c2;clear hcl htt ht6;go_wp2;go_meet
     case rel=>exact ⟨rfl,rfl⟩
   case rest=>
    obtain ⟨rfl,rfl⟩:=hcut;clear hcl htt ht6;go_wp2_with fail;refine HPu.out.mono ?_;rintro e w7 ⟨rfl,HT7⟩;clear HPu hsl;go_wp2;go_roundw
    case rel=>exact ⟨k+1,HNx.out,by go_num,HT7⟩
    case measure=>simp [RowKit.intOf];omega
  ·have q0:¬ ((kk:Nat):Int)<bs.length:=by omega
   have HCo:Hid (Calls _ _ _ _ _):=HT.out.commit (by omega)
   clear HT hk hk41 hkk hm2;go_wp2_with fail;refine HCo.out.mono ?_;rintro e w7 ⟨rfl,nb7,sb7,cv7,D7,h7,HD7⟩;have HCr:Hid (Calls _ _ _ _ _):=tp_crash HD7.out.1 HD7.out.2.2;clear HCo hm1;go_wp2_with fail;refine HCr.out.mono ?_;rintro e w8 ⟨rfl,HT8⟩;have HOp8:Hid (Calls _ _ _ _ _):=tp_open HT8.out HD7.out.2.1;clear HCr HD7 HT8;go_wp2_with fail;refine HOp8.out.mono ?_;rintro e w9 ⟨s9,rfl,HG9⟩;clear HOp8
   go_wp2_with fail;go_loopw [20,21] (fun v i wr=>∃ k:Nat,k≤40∧i=.int .i64 k∧Hid (Below w9.heap.size w9 wr∧Qaq wr w9.heap.size v ((List.range k).flatMap (Qdu bs)))) (fun _ i _=>40 - (RowKit.intOf i).toNat)
   case atStart=>exact ⟨0,by omega,rfl,Below.refl _ _,Qaq.nil _ _⟩
   case round=>
    rename World=>wr9
    obtain ⟨j,hj,rfl,HG⟩:=hrel;obtain ⟨va,vc,rfl,hvb⟩:=HG.out.2.isBy;by_cases hj4:j<40
    ·have HGe:Hid (Calls _ _ _ _ _):=(HG9.out.below HG.out.1).get hj4;have q1:(j:Int)<40:=by omega
     have HRj:Hid (Qaq wr9 w9.heap.size _ _):=HG.out.2;have HBj:Hid (Below w9.heap.size w9 wr9):=HG.out.1;have HLe:Hid (((List.range j).flatMap (Qdu bs)).length+(Qdu bs j).length≤1000000):=by
      unfold Hid;rw [Qhp,List.length_take]
      have:=cutP_len bs j
      have:=HLn.out
      omega
     have HNx:Hid ((List.range (j+1)).flatMap (Qdu bs)=(List.range j).flatMap (Qdu bs)++Qdu bs j):=cutP_next bs j;clear hvb HG;generalize (List.range j).flatMap (Qdu bs)=Y at *
     generalize Qdu bs j=Z at *
     obtain ⟨ny,hny⟩:∃ ny,Y.length=ny:=⟨_,rfl⟩;obtain ⟨nz,hnz⟩:∃ nz,Z.length=nz:=⟨_,rfl⟩;have Hnz:Hid (Z.length=nz):=hnz;rw [hny] at HRj ⊢;rw [hnz] at HGe;clear hny hnz;go_wp2_with fail;refine HGe.out.mono ?_;rintro e w10 ⟨ad,ac,rfl,h10⟩;have HRw:Hid (Qaq w10 w9.heap.size (.slice va ny vc) Y):=HRj.out.below h10.out.2;have HIb:Hid (QcT w10 ad Z ac):=h10.out.1;have HB10:Hid (Below w9.heap.size w9 w10):=HBj.out.trans (h10.out.2.mono HBj.out.size)
     have HSz:Hid (w9.heap.size≤w10.heap.size):=HB10.out.size;clear HGe h10 HRj HBj;go_wp2_with (at_builtin;refine wpList_appZ rfl _ _ rfl w9.heap.size (.slice va ny vc) Y ad Z nz ac rfl rfl Hnz.out HRw.out HIb.out HSz.out HLe.out ?_;intro v11 w11 hr11 hb11);have HE:Hid (Below w9.heap.size w9 w11∧Qaq w11 w9.heap.size v11 ((List.range (j+1)).flatMap (Qdu bs))):=⟨HB10.out.trans hb11,by rw [HNx.out];exact hr11⟩
     clear HRw HIb HB10 HSz HLe hr11 hb11 HNx Hnz;go_wp2;go_roundw
     case rel=>exact ⟨j+1,by omega,by go_num,HE⟩
     case measure=>simp [RowKit.intOf];omega
    ·obtain rfl:j=40:=by omega
     have HB9:Hid (Below w3.heap.size w3 wr9):=(HG9.out.below HG.out.1).lo;have e40:(List.range 40).flatMap (Qdu bs)=bs:=by rw [Qhp,List.take_of_length_le (by omega)]
     rw [e40] at hvb;have HRd:Hid (Calls _ _ _ _ _):=tp_read wr9 va vc bs R hvb l24 HS.out;rw [e40];clear hvb HG HG9 e40 HS;go_wp2_with fail;refine HRd.out.mono ?_;rintro e w10 ⟨ra,rc,rfl,h10⟩;have HSm:Hid (Calls prog 15 #[.slice ra R.length rc,.slice sa R.length sc] w10 fun e w'=>e=.returned (.bool true)∧Hid (Below w.heap.size w w')):=by
      have b10:Below w3.heap.size w3 w10:=HB9.out.trans (h10.out.1.mono HB9.out.size);refine (sameBals_any ra sa rc sc R w10 (by have:=HBl.out.2;omega) h10.out.2 (HBl.out.1.below b10)).mono ?_
      rintro e w' ⟨rfl,hb⟩;have b3:=HB3.out.trans (b10.mono HB3.out.size);exact ⟨rfl,b3.trans (hb.mono b3.size)⟩
     clear HRd h10 HB9 HB3 HBl HBy;go_wp2_with fail;refine HSm.out.mono ?_;rintro e w11 ⟨rfl,h11⟩;clear HSm;go_wp2;go_ret;exact ⟨rfl,h11.out⟩
end
section
open Go.RowKit Go.Lib Go.Proofs.Tryz
section
variable {H:Type} {enc:TypeId×Value→H}
theorem ld_bulk_pos (d:DataW H):1≤Rows.uptoBulk d:=by
 cases d with
 | lit l=>cases l <;> simp [Rows.uptoBulk]
 | _=>simp [Rows.uptoBulk]
theorem QgX:∀ l:List (DataW H),l.length≤Rows.uptoBulkAll l
 | []=>Nat.zero_le _
 | x :: l=>by
  have h1:=ld_bulk_pos x;have h2:=QgX l;simp only [Rows.uptoBulkAll,List.length_cons];omega
theorem ld_bulk_part {d:DataW H} {l:List (DataW H)} (h:d∈l):Rows.uptoBulk d≤Rows.uptoBulkAll l:=by
 induction l with
 | nil=>cases h
 | cons x r ih=>
  simp only [Rows.uptoBulkAll]
  cases List.mem_cons.1 h with
  | inl e=>subst e;omega
  | inr e=>have:=ih e;omega
theorem QeZ:prog.cellsOf 56=3:=by kernel_rfl
theorem ld_open_line {w:World} {base:Nat} {spare:Nat→Bool} {held:Bool} {m:Nat} {cs:List Value} {x:DataW H×List MemPlace} (h:DataW.trod enc prog w base spare held m 56 cs=some x):∃ a:Ln,cs=a.cells.toList∧a.acc.size≤maxLen∧a.cur.size≤maxLen:=by
 cases m with
 | zero=>simp [DataW.trod] at h
 | succ m=>
  rw [DataW.trod_step] at h;unfold DataW.trodStep at h;rw [underlying56] at h;simp only [QeZ] at h;split at h
  ·rename_i hl
   match cs,hl with
   | [c0,c1,c2],_=>
    simp [ldP_str,ldP_int] at h;cases h0:DataW.trod enc prog w base spare held m 9 [c0]
    ·simp [h0] at h
    cases h1:DataW.trod enc prog w base spare held m 9 [c1]
    ·simp [h0,h1] at h
    cases h2:DataW.trod enc prog w base spare held m 3 [c2]
    ·simp [h0,h1,h2] at h
    obtain ⟨s,rfl,hs⟩:=QcS h0;obtain ⟨t,rfl,ht⟩:=QcS h1;obtain ⟨p,rfl,hp⟩:=QeE h2;exact ⟨⟨s,t,p⟩,rfl,hs,ht⟩
  ·cases h
theorem Qie {W:World} {a:Option Addr} {len cap fuel:Nat} {x:DataW H×List MemPlace} (h:DataW.trod enc prog W 0 (fun _=>true) true fuel 57 [.slice a len cap]=some x) :
  ∃ l:List Ln,l.length=len∧Qfs W a l cap∧(∀ n∈l,n.acc.size≤maxLen∧n.cur.size≤maxLen)∧len≤Rows.uptoBulk x.1:=by
 rcases Go.Deep.open_slice underlying57 h with ⟨hcs,_⟩ | ⟨x,l,c,m,n,D,Pl,hcs,_,hl,hm,hmm,hxx,hx⟩
 ·simp at hcs;obtain ⟨rfl,rfl,rfl⟩:=hcs;exact ⟨[],rfl,⟨by simp,.inl rfl⟩,by simp,by omega⟩
 ·simp at hcs;obtain ⟨rfl,rfl,rfl⟩:=hcs;have hmm2:m=cap:=hmm;rw [QeZ] at hx;have hr:∀ i,i<len→∃ r:Ln,(∀ j,j<3→W.cell? ((x.add (i*3)).add j)=r.cells.toList[j]?)∧r.acc.size≤maxLen∧r.cur.size≤maxLen:=fun i hi=>by
   obtain ⟨cs',h1,h2⟩:=hx i (by omega)
   obtain ⟨r,rfl,hw⟩:=ld_open_line h2;exact ⟨r,(World.cells?_some h1).2.2,hw⟩
  obtain ⟨f,hf⟩:=@Go.Deep.choose_lt Ln ⟨ln0⟩ _ _ hr;have hget:∀ k,k<len→((List.range len).map f).getD k ln0=f k:=fun k hk=>by simp [List.getD,hk]
  have hlen:((List.range len).map f).length=len:=by simp
  refine ⟨(List.range len).map f,hlen,⟨by rw [hlen];exact hl,?_⟩,?_,?_⟩
  ·by_cases h0:len=0
   ·subst h0;exact .inl rfl
   ·right
    obtain ⟨b,off,spot⟩:=x;have hc:W.cell? ⟨b,off,spot⟩=some (.string (f 0).acc):=(hf 0 (by omega)).1 0 (by omega)
    have hspot:spot=none:=World.cell?_spot hc;subst hspot;refine ⟨b,off,rfl,World.block_lt_of_cell? _ _ hc,fun k hk=>?_⟩
    rw [hlen] at hk;rw [hget k hk];have C:∀ i,i<3→W.cell? ⟨b,off+k*3+i,none⟩=(f k).cells.toList[i]?:=fun i hi=>by
     have:=(hf k hk).1 i hi
     rw [ld_add,ld_add] at this;exact this
    exact ⟨C 0 (by omega),C 1 (by omega),C 2 (by omega)⟩
  ·intro y hy;obtain ⟨k,hk,rfl⟩:=List.mem_map.1 hy;exact (hf k (List.mem_range.1 hk)).2
  ·rw [hxx];have h1:=QgX ((List.range len).map D);simp only [List.length_map,List.length_range] at h1;simp only [Rows.uptoBulk];omega
theorem Qeq:prog.cellsOf 59=4:=by kernel_rfl
theorem ld_lns_cells:prog.cellsOf 57=1:=by kernel_rfl
theorem ld_cell_slice {w:World} {base:Nat} {spare:Nat→Bool} {held:Bool} {m:Nat} {c:Value} {y:DataW H×List MemPlace} (h:DataW.trod enc prog w base spare held m 57 [c]=some y):∃ a len cap,c=.slice a len cap:=by
 rcases Go.Deep.open_slice underlying57 h with ⟨hcs,_⟩ | ⟨x,l,c',m,n,D,Pl,hcs,_⟩
 ·simp at hcs;exact ⟨_,_,_,hcs⟩
 ·simp at hcs;exact ⟨_,_,_,hcs⟩
theorem ld_open_entry {w:World} {m:Nat} {cs:List Value} {x:DataW H×List MemPlace} (h:DataW.trod enc prog w 0 (fun _=>true) true m 59 cs=some x) :
  ∃ a:Je,cs=a.cells.toList∧(-9223372036854775808≤a.ent∧a.ent≤9223372036854775807)∧(-9223372036854775808≤a.per∧a.per≤9223372036854775807)∧Qfs w a.adr a.lns a.cap∧(∀ n∈a.lns,n.acc.size≤maxLen∧n.cur.size≤maxLen)∧a.lns.length≤Rows.uptoBulk x.1:=by
 cases m with
 | zero=>simp [DataW.trod] at h
 | succ m=>
  rw [DataW.trod_step] at h;unfold DataW.trodStep at h;rw [underlying59] at h;simp only [Qeq] at h;split at h
  ·rename_i hl
   match cs,hl with
   | [c0,c1,c2,c3],_=>
    simp [ldP_str,ldP_int,ld_lns_cells] at h;cases h0:DataW.trod enc prog w 0 (fun _=>true) true m 9 [c0]
    ·simp [h0] at h
    cases h1:DataW.trod enc prog w 0 (fun _=>true) true m 3 [c1]
    ·simp [h0,h1] at h
    cases h2:DataW.trod enc prog w 0 (fun _=>true) true m 3 [c2]
    ·simp [h0,h1,h2] at h
    cases h3:DataW.trod enc prog w 0 (fun _=>true) true m 57 [c3]
    ·simp [h0,h1,h2,h3] at h
    rename_i y3;obtain ⟨s,rfl,hs⟩:=QcS h0;obtain ⟨f,rfl,hf⟩:=QeE h1;obtain ⟨p,rfl,hp⟩:=QeE h2;obtain ⟨a,len,cap,rfl⟩:=ld_cell_slice h3;obtain ⟨l,rfl,g1,g2,g3⟩:=Qie h3;refine ⟨⟨s,f,p,a,cap,l⟩,rfl,ld_wf hf,ld_wf hp,g1,g2,?_⟩;simp [h0,h1,h2,h3] at h;rw [← h];simp only [Rows.uptoBulk,Rows.uptoBulkAll];show l.length≤_;omega
  ·cases h
theorem Qij {W:World} {a:Option Addr} {len cap fuel:Nat} {x:DataW H×List MemPlace} (h:DataW.trod enc prog W 0 (fun _=>true) true fuel 22 [.slice a len cap]=some x) :
  ∃ L:List Je,L.length=len∧Qha W a L cap∧len≤maxLen∧(∀ x∈L,(-9223372036854775808≤x.ent∧x.ent≤9223372036854775807)∧(-9223372036854775808≤x.per∧x.per≤9223372036854775807)∧∀ n∈x.lns,n.acc.size≤maxLen∧n.cur.size≤maxLen)∧(L.flatMap Qif).length≤Rows.uptoBulk x.1:=by
 rcases Go.Deep.open_slice underlying22 h with ⟨hcs,_⟩ | ⟨x,l,c,m,n,D,Pl,hcs,_,hl,hm,hmm,hxx,hx⟩
 ·simp at hcs;obtain ⟨rfl,rfl,rfl⟩:=hcs;exact ⟨[],rfl,⟨by simp,.inl rfl,by simp⟩,by unfold maxLen;omega,by simp,by simp⟩
 ·simp at hcs;obtain ⟨rfl,rfl,rfl⟩:=hcs;have hmm2:m=cap:=hmm;rw [Qeq] at hx;have hr:∀ i,i<len→∃ r:Je,(∀ j,j<4→W.cell? ((x.add (i*4)).add j)=r.cells.toList[j]?)∧(-9223372036854775808≤r.ent∧r.ent≤9223372036854775807)∧(-9223372036854775808≤r.per∧r.per≤9223372036854775807)∧Qfs W r.adr r.lns r.cap∧(∀ n∈r.lns,n.acc.size≤maxLen∧n.cur.size≤maxLen)∧r.lns.length≤Rows.uptoBulk (D i):=fun i hi=>by
   obtain ⟨cs',h1,h2⟩:=hx i (by omega)
   obtain ⟨r,rfl,hw⟩:=ld_open_entry h2;exact ⟨r,(World.cells?_some h1).2.2,hw⟩
  obtain ⟨f,hf⟩:=@Go.Deep.choose_lt Je ⟨je0⟩ _ _ hr;have hget:∀ k,k<len→((List.range len).map f).getD k je0=f k:=fun k hk=>by simp [List.getD,hk]
  have hlen:((List.range len).map f).length=len:=by simp
  refine ⟨(List.range len).map f,hlen,⟨by rw [hlen];exact hl,?_,?_⟩,Nat.le_trans hl hm,?_,?_⟩
  ·by_cases h0:len=0
   ·subst h0;exact .inl rfl
   ·right
    obtain ⟨b,off,spot⟩:=x;have hc:W.cell? ⟨b,off,spot⟩=some (.string (f 0).ref):=(hf 0 (by omega)).1 0 (by omega)
    have hspot:spot=none:=World.cell?_spot hc;subst hspot;refine ⟨b,off,rfl,World.block_lt_of_cell? _ _ hc,fun k hk=>?_⟩
    rw [hlen] at hk;rw [hget k hk];have C:∀ i,i<4→W.cell? ⟨b,off+k*4+i,none⟩=(f k).cells.toList[i]?:=fun i hi=>by
     have:=(hf k hk).1 i hi
     rw [ld_add,ld_add] at this;exact this
    exact ⟨C 0 (by omega),C 1 (by omega),C 2 (by omega),C 3 (by omega)⟩
  ·intro y hy;obtain ⟨k,hk,rfl⟩:=List.mem_map.1 hy;exact (hf k (List.mem_range.1 hk)).2.2.2.1
  ·intro y hy;obtain ⟨k,hk,rfl⟩:=List.mem_map.1 hy
   have:=hf k (List.mem_range.1 hk)
   exact ⟨this.2.1,this.2.2.1,this.2.2.2.2.1⟩
  ·rw [hxx];have key:∀ l:List Nat,(∀ k∈l,k<len)→((l.map f).flatMap Qif).length≤Rows.uptoBulkAll (l.map D):=by
    intro l
    induction l with
    | nil=>intro _;simp
    | cons k l ih=>
     intro hk;have h1:=ih (fun q hq=>hk q (List.mem_cons_of_mem _ hq))
     have h2:=(hf k (hk k (List.mem_cons_self ..))).2.2.2.2.2;simp only [List.map_cons,List.flatMap_cons,List.length_append,Qdb,Rows.uptoBulkAll];omega
   have h1:=key (List.range len) (fun k hk=>List.mem_range.1 hk)
   simp only [Rows.uptoBulk];omega
end
end
section
open Go.ChangeShapes Go.WideShapes Go.RowKit Go.ChangeAt Go.Deep Go.Proofs.Tryz
open Go.ChangeMaps (open_string shut_string)
theorem tpp_own:ownKnob prog.godebug=none:=by kernel_rfl
theorem tpp_laidOut:laidOutB prog=true:=by kernel_rfl
def QbS (d:DataW Unit):Array Value:=
 match d with
 | .agg l=>(l.map fun x=>match x with
  | .lit (.int k z)=>Value.int k z
  | _=>.bool false).toArray
 | _=>#[]
def Qdo (cs:Array Value) (o:Obj):Obj:=
 match o with
 | .cells _ t frozen=>.cells cs t frozen
 | o=>o
theorem tpp_gTab : prog.globalNamed "internal/strconv.uint64pow10" = some 0 := by kernel_rfl
theorem tpp_gType:(prog.globals[0]?).map (·.type)=some 297:=by kernel_rfl
theorem tpp_cellsT:prog.cellsOf 297=20:=by kernel_rfl
theorem tpp_cellsE:prog.cellsOf 137=1:=by kernel_rfl
theorem tpp_table {W:World} (h:laidMetH prog Rows.topPagesUptoRow.laid W):Qh9 W:=by
 have h1:laidMet prog Rows.topPagesUptoRow.laid W:=h;have h2 : laidMet prog (("internal/strconv.uint64pow10", Lib.tabData .u64 Lib.pow10Tab) :: []) W := (laidMet.tail (laidMet.tail h1));exact Lib.tabIs_of_head tpp_gTab tpp_gType underlying297 underlying137 tpp_cellsE tpp_cellsT h2
theorem tpp_met (os:Os):laidMetH prog Rows.topPagesUptoRow.laid (({ World.holding prog os ⟨#[],#[],[]⟩ with heap:=(((World.holding prog os ⟨#[],#[],[]⟩).heap.modify 3 (Qdo (QbS Rows.laid_math_bits_deBruijn32tab))).modify 4 (Qdo (QbS Rows.laid_math_bits_deBruijn64tab))).modify 0 (Qdo (QbS Rows.laid_internal_strconv_uint64pow10)) }:World).forCall (fun _ _=>0) ⟨#[],#[.slice none 0 0,.int .i64 0],[]⟩).memory:=
 (show laidMet prog Rows.topPagesUptoRow.laid _ from laidMet_of_run' 8 (by kernel_rfl) (by kernel_rfl))
theorem tpp_reads (os:Os) {H:Type} (enc:TypeId×Value→H):∃ places,DataW.whole enc prog (({ World.holding prog os ⟨#[],#[],[]⟩ with heap:=(((World.holding prog os ⟨#[],#[],[]⟩).heap.modify 3 (Qdo (QbS Rows.laid_math_bits_deBruijn32tab))).modify 4 (Qdo (QbS Rows.laid_math_bits_deBruijn64tab))).modify 0 (Qdo (QbS Rows.laid_internal_strconv_uint64pow10)) }:World).forCall (fun _ _=>0) ⟨#[],#[.slice none 0 0,.int .i64 0],[]⟩).memory Tryz.f3.params.toList Rows.topPagesSpec.vars false #[.slice none 0 0,Value.int .i64 0].toList 8=some ([.nil,.lit (.int .i64 0)],[],places):=
 ⟨[],by kernel_rfl⟩
set_option maxRecDepth 100000 in
theorem tpp_contract (H:Type) (enc:TypeId×Value→H) (W:World) (base:Nat) (args:Array Value) (ds gs:List (DataW H)) (before:List MemPlace)
  (hval0:∀ (j:Nat) t v,Tryz.f3.params[j]? = some t→args[j]? = some v→Value.okWide prog W .any base t v)
  (hW:DataW.Whole enc prog Tryz.f3.params.toList Rows.topPagesSpec.vars false W args.toList ds gs before) (hk:Rows.uptoSmall H (ds++gs)=true) (hL:laidMetH prog Rows.topPagesUptoRow.laid W) :
  Calls prog 3 args W fun e W'=>∃ v,e=.returned v∧Rows.topPagesSpec.post enc prog Tryz.f3 false true false false W args v W':=by
 have ht:=tpp_table hL;have hval:∀ (j:Nat) t v,Tryz.f3.params[j]? = some t→args[j]? = some v→Value.okWide prog W .any base t v:=hval0;have hW':=hW;obtain ⟨p,q,hA0,hV,rfl,hfz,hnd⟩:=hW;have hA:DataW.TrodAll enc prog W 0 (fun _=>true) true Tryz.f3.params.toList args.toList ds p:=hA0
 rw [Tryz.params3] at hA hval;obtain ⟨v0,vs0,d0,ds0,p0,q0,hargs,rfl,rfl,h0,r0⟩:=trodAll_cons hA;obtain ⟨v1,vs1,d1,ds1,p1,q1,rfl,rfl,rfl,h1,r1⟩:=trodAll_cons r0;obtain ⟨rfl,rfl,rfl⟩:=trodAll_nil r1;obtain rfl:args=#[v0,v1]:=by cases args;simp_all
 obtain ⟨rfl,rfl⟩:=trodVars_none hV;obtain ⟨a0,len0,cap0,rfl⟩:=okWide_slice underlying22 (hval 0 22 v0 rfl rfl);have k0:=h0;have lt0:∀ x∈p0,x.block<W.heap.size:=by obtain ⟨m,hm⟩:=k0;exact DataW.trod_lt m _ _ _ hm
 obtain ⟨L,hL2,hJ,hm,hx,hb⟩:∃ L:List Je,L.length=len0∧Qha W a0 L cap0∧len0≤maxLen∧(∀ x∈L,(-9223372036854775808≤x.ent∧x.ent≤9223372036854775807)∧(-9223372036854775808≤x.per∧x.per≤9223372036854775807)∧∀ n∈x.lns,n.acc.size≤maxLen∧n.cur.size≤maxLen)∧(L.flatMap Qif).length≤Rows.uptoBulk d0:=by
  obtain ⟨fuel,hf⟩:=h0;exact Qij hf
 subst hL2;obtain ⟨x1,rfl,rfl,rfl,w1⟩:=open_int underlying3 (hval 1 3 v1 rfl rfl) h1;have hk':Rows.uptoBulkAll ([d0,.lit (.int .i64 x1)]++([]:List (DataW H)))≤1048576:=of_decide_eq_true hk;have hsum:(L.flatMap Qif).length≤17592186044400:=by
  have h1:=ld_bulk_part (l:=[d0,.lit (.int .i64 x1)]++([]:List (DataW H))) (d:=d0) (by simp)
  omega
 clear hA0 hval0;refine (pages_walk a0 cap0 L x1 W hJ ⟨fun x h=>(hx x h).1,fun x h=>(hx x h).2.1,fun x h=>(hx x h).2.2,hsum⟩ (by unfold maxLen at hm;exact hm) ht).mono fun e W' ⟨he,bel⟩=>?_
 subst he;exact ⟨_,rfl,_,_,_,[],_,[],hW',trodAll_mk1 (shut_bool underlying4 _),(trodAll_cons_mk (Below.trod tpp_laidOut (by kernel_rfl) (of_decide_eq_true (by kernel_rfl)) k0 bel lt0) (trodAll_cons_mk (shut_int underlying3 w1) trodAll_mk0)),rfl,bel.frame _,fun h=>by cases h⟩
set_option maxRecDepth 100000 in
theorem tpp_lifted (os:Os) (started:os.Started) (H:Type) (enc:TypeId×Value→H) (F:Stop.Interp) :
  ReturnsInHanded {} Tryz.checked os 3 .any ((Rows.OpenSpec.upto Rows.topPagesSpec).preRow enc prog Tryz.f3 Rows.topPagesUptoRow.domain false Rows.topPagesUptoRow.laid) (((Rows.OpenSpec.upto Rows.topPagesSpec).at F).post enc prog Tryz.f3 false true false false):=by
 obtain ⟨places,hx⟩:=tpp_reads os enc;refine returnsInHanded_of_row (C:=Tryz.checked) (s:=Rows.OpenSpec.upto Rows.topPagesSpec) tpp_own started (by kernel_rfl) func3
  (witness_row_at (enc:=enc) (C:=Tryz.checked) false ({ World.holding prog os ⟨#[],#[],[]⟩ with heap:=(((World.holding prog os ⟨#[],#[],[]⟩).heap.modify 3 (Qdo (QbS Rows.laid_math_bits_deBruijn32tab))).modify 4 (Qdo (QbS Rows.laid_math_bits_deBruijn64tab))).modify 0 (Qdo (QbS Rows.laid_internal_strconv_uint64pow10)) }:World) #[.slice none 0 0,.int .i64 0] rfl (by kernel_rfl) (by kernel_rfl) (by kernel_rfl)
   (OpenSpec.preRow_of_cond 8 hx (by kernel_rfl) (fun k hk=>by cases hk;kernel_rfl) (by kernel_rfl) (tpp_met os))) ?_
 intro W base args ds gs before hval hW _ hcond _ hL hsh _;exact tpp_contract H enc W base args ds gs before hval hW (hcond _ rfl) hL
theorem tpp_said:Rows.TopPagesUptoSaid:=
 OpenClaim.holds_of_cond 3 Tryz.f3 rfl rfl rfl rfl rfl rfl rfl ⟨rfl,rfl,rfl,rfl,rfl⟩ rfl rfl rfl rfl rfl (by kernel_rfl) func3 (by kernel_rfl)
  (of_decide_eq_true (by kernel_rfl)) (by unfold Func.isWrapper;first | (rw [if_pos (by decide +kernel)];kernel_rfl) | (rw [if_neg (by decide +kernel)];exact ⟨rfl,rfl⟩))
  (fun os started H enc _ F=>by rw [OpenClaim.pre_eq_preRow];exact tpp_lifted os started H enc F)
theorem topPages_holds:Rows.TopPagesUptoCardSaid:=
 Claim7.holds_tied_plain_at .later [] _ _ _ _ tpp_said (fun _ h=>by cases h) (by kernel_rfl) (fun _ h=>by cases h) topPagesUpto_row_tie rfl ⟨rfl,rfl⟩ (by kernel_rfl) rfl
  (fun f fn hf hfn=>by
   obtain rfl : f = 3 := Option.some.inj ((show prog.funcNamed "quarterday/daytop.TopPages" = some 3 by kernel_rfl).symm.trans hf) |>.symm
   obtain rfl:fn=Tryz.f3:=(Option.some.inj (func3.symm.trans hfn)).symm;exact ⟨by kernel_rfl,fun j t ht=>by
    rw [Tryz.params3] at ht;have h3:t=22∨t=3:=by
     rcases j with _ | _ | j
     ·exact .inl (by simpa using ht.symm)
     ·exact .inr (by simpa using ht.symm)
     ·simp at ht
    rcases h3 with rfl | rfl
    ·exact (show prog.wantsStandIn 22=false by kernel_rfl)
    ·exact (show prog.wantsStandIn 3=false by kernel_rfl)⟩)
  (by kernel_rfl)
#print axioms topPages_holds
end
end Go.Proofs.YtjifbbdkpanagaaGreatDoor
