/-
  Part of a proof (see the last text).
-/
import Derived.Test.YtibhgngboljhfaaGreatDoorZp38
set_option linter.unusedVariables false
set_option linter.unusedSimpArgs false
set_option maxRecDepth 100000
namespace Go.Proofs.YtibhgngboljhfaaGreatDoor
section
open Go.RowKit Go.Lib Go.Proofs.Tryz
set_option maxHeartbeats 16000000 in
theorem rests_walk_cl (a ra pla poa pra la:Option Addr) (cap rc plc poc prc lc:Nat) (c:List Ac) (rs:List Rt) (pls:List Pn) (pos:List Po) (prs:List Pr) (L:List Je) (pe:Int) (w:World)
  (h:QbJ w a c cap) (hr:IsRt w ra rs rc) (hrok:RtsOk rs) (hpl:Qe6 w pla pls plc) (hpll:pls.length≤9223372036854775807) (hpo:QgV w poa pos poc) (hpol:pos.length≤9223372036854775807) (hpr:QfP w pra prs prc) (hprl:prs.length≤9223372036854775807) (hL:QdF w la L lc) (hLl:L.length≤9223372036854775807) (ht:Qgj w) (hg:ErrT w) :
  Calls prog 3 #[.slice a c.length cap,.slice ra rs.length rc,.slice pla pls.length plc,.slice poa pos.length poc,.slice pra prs.length prc,.slice la L.length lc,.int .i64 pe] w fun e w'=>e=.returned (.bool true)∧Below w.heap.size w w':=by
 have HA:Hid (Calls _ _ _ _ _):=accounts3_any w;have HN1:Hid (∀ U a1 c1,Below w.heap.size w U→QbJ U a1 jC c1→Calls prog 4 #[.slice a1 5 c1,.slice none 0 0,.string ⟨#[69,85,82]⟩,.string ⟨#[52,48]⟩,.string ⟨#[51,48]⟩] U fun e w'=>∃ B P,e=.returned (.tuple #[.pointer (some ⟨B,0,none⟩),.nilIface])∧Hid (ClS w' U.heap.size w'.heap.size B P (FS jC [] [])∧Below w.heap.size w w')):=fun U a1 c1 hU hs=>new_fact w U a1 c1 hU ht hs
 have HE1:Hid (∀ U,Calls prog 7 #[.string ⟨#[97]⟩,.int .i64 1,.int .i64 1,.string ⟨#[49,48]⟩,.string ⟨#[52,48]⟩,.string ⟨#[69,85,82]⟩,.int .i64 5] U fun e w'=>∃ a cap,e=.returned (.agg #[.string ⟨#[97]⟩,.int .i64 1,.int .i64 1,.slice a 2 cap])∧Hid (Qc5 w' a fLn cap∧Below U.heap.size U w')):=fun U=>by
  refine (Qjh ⟨#[97]⟩ 1 1 ⟨#[49,48]⟩ ⟨#[52,48]⟩ ⟨#[69,85,82]⟩ 5 U rfl).mono ?_;rintro e w' ⟨a,cap,rfl,k1,k2⟩;exact ⟨a,cap,rfl,k1,k2⟩
 have HE2:Hid (∀ U,Calls prog 7 #[.string ⟨#[108,97,116,101]⟩,.int .i64 1,.int .i64 pe,.string ⟨#[49,48]⟩,.string ⟨#[52,48]⟩,.string ⟨#[69,85,82]⟩,.int .i64 5] U fun e w'=>∃ a cap,e=.returned (.agg #[.string ⟨#[108,97,116,101]⟩,.int .i64 1,.int .i64 pe,.slice a 2 cap])∧Hid (Qc5 w' a fLn cap∧Below U.heap.size U w')):=fun U=>by
  refine (Qjh ⟨#[108,97,116,101]⟩ 1 pe ⟨#[49,48]⟩ ⟨#[52,48]⟩ ⟨#[69,85,82]⟩ 5 U rfl).mono ?_;rintro e w' ⟨a,cap,rfl,k1,k2⟩;exact ⟨a,cap,rfl,k1,k2⟩
 have HNw:Hid (∀ U,Below w.heap.size w U→Calls prog 4 #[.slice a c.length cap,.slice ra rs.length rc,.string ⟨#[69,85,82]⟩,.string ⟨#[52,48]⟩,.string ⟨#[51,48]⟩] U (NrEnd w c pe)):=fun U hU=>new_rests w U a ra cap rc c rs pe hU ht h hr hrok
 have HIn:Hid (∀ U,Below w.heap.size w U→QbJ U a c cap∧QdF U la L lc):=fun U hU=>⟨h.below hU,hL.below hU⟩
 have HPn:Hid (Qe6 w pla pls plc∧pls.length≤9223372036854775807):=⟨hpl,hpll⟩;have HPo:Hid (QgV w poa pos poc∧pos.length≤9223372036854775807):=⟨hpo,hpol⟩;have HPr:Hid (QfP w pra prs prc∧prs.length≤9223372036854775807):=⟨hpr,hprl⟩;have HEr:Hid (∀ n U,-9223372036854775808≤n→n≤9223372036854775807→Below w.heap.size w U→Calls prog 16 #[.iface 68 (.int .i64 n),.int .i64 7] U fun e w'=>e=.returned (.bool (n == 7))∧Below U.heap.size U w'):=fun n U h1 h2 hU=>error_errno n 7 U h1 h2 (hg.below hU (Nat.le_refl _))
 clear h hr hrok hpl hpll hpo hpol hpr hprl hL ht hg;go_enter func3,ntmps3
 go_wp2_with fail;refine HA.out.mono ?_;rintro e w1 ⟨rfl,hs1,hb1⟩;have HN2:Hid (Calls _ _ _ _ _):=HN1.out w1 _ 5 hb1 hs1;have HB1:Hid (Below w.heap.size w w1):=hb1;clear HA HN1 hs1 hb1;go_wp2_with fail;refine HN2.out.mono ?_;rintro e w2 ⟨B1,P1,rfl,h2⟩;have HZ1:Hid (w.heap.size≤w1.heap.size):=HB1.out.size;clear HN2 HB1;go_wp2_with fail;refine (HE1.out _).mono ?_;rintro e w3 ⟨la1,lc1,rfl,h3⟩;have HP3:Hid (Calls _ _ _ _ _):=fact_post QfJ (h2.out.1.below h3.out.2) la1 lc1 h3.out.1
 have HB3:Hid (Below w.heap.size w w3):=h2.out.2.trans (h3.out.2.mono h2.out.2.size);clear HE1 h2 h3;go_wp2_with fail;refine HP3.out.mono ?_;rintro e w4 ⟨rfl,m4,P4,es4,st4,h4⟩;have HF0:Hid (FcAt w w1.heap.size B1 0 w4):=⟨m4,P4,es4,st4,h4.out.1,HB3.out.trans (h4.out.2.2.2.mono HZ1.out),h4.out.2.2.1,h4.out.2.1⟩;clear HP3 h4 HB3;obtain ⟨n1,hn1⟩:∃ n1,w1.heap.size=n1:=⟨_,rfl⟩;rw [hn1] at HF0 HZ1;clear hn1
 go_wp2_with fail;go_loopw [17] (fun i wr=>∃ k:Nat,k≤6∧i=.int .i64 k∧Hid (FcAt w n1 B1 k wr)) (fun i _=>6 - (RowKit.intOf i).toNat)
 case atStart=>exact ⟨0,Nat.zero_le _,rfl,HF0⟩
 case round=>
  obtain ⟨k,hk,rfl,HF⟩:=hrel;clear HF0;by_cases h6:k<6
  ·have HAd:Hid (Calls _ _ _ _ _):=HF.out.adv HZ1.out h6;have q0:(k:Int)<6:=by omega
   clear HF;go_wp2_with fail;refine HAd.out.mono ?_;rintro e w5 ⟨n5,rfl,HF5⟩;clear HAd;go_wp2;go_roundw
   case rel=>exact ⟨k+1,by omega,by go_num,HF5⟩
   case measure=>simp [RowKit.intOf];omega
  ·obtain rfl:k=6:=by omega
   have HFe:Hid (Calls _ _ _ _ _):=HF.out.ents;clear HF HZ1 h6 hk;go_wp2_with fail;refine HFe.out.mono ?_;rintro e w5 ⟨jb,jo,jc,lb,lo,lc2,rfl,h5⟩;obtain ⟨f3,g0,g2,j1,j2,hb5,hst⟩:=h5.out;have HSt:Hid (Calls _ _ _ _ _):=hst;have HB5:Hid (Below w.heap.size w w5):=hb5;clear HFe h5 hb5 hst;go_wp2_with fail;refine HSt.out.mono ?_;rintro e w' ⟨rfl,hw⟩;rw [hw];clear hw w' HSt;go_wp2_with fail;clear f3 g0 g2 j1 j2
   refine (HNw.out w5 HB5.out).mono ?_;rintro e w6 (⟨n6,rfl,h6⟩ | ⟨B,rfl,h6⟩)
   ·clear HNw HIn HPn HPo HPr HEr HE2 HB5;go_wp2;go_ret;exact ⟨rfl,h6.out⟩
   have HCc:Hid (Qat c=0∧kOf c ⟨#[51,48]⟩=3):=⟨h6.out.1,h6.out.2.1⟩;obtain ⟨n0,HZ,HG6⟩:∃ n0,Hid (w.heap.size≤n0)∧Hid (GsF w n0 B c pe w6):=by
    obtain ⟨_,_,n0,m6,P6,S6,k1,k2⟩:=h6.out;exact ⟨n0,k1,m6,P6,S6,k2⟩
   have HB6:Hid (Below w.heap.size w w6):=HG6.out.gs.lo;clear HNw h6 HB5;by_cases hp1:pe<1
   ·clear HIn HPn HPo HPr HEr HE2 HG6 HCc;go_wp2;go_ret;exact ⟨rfl,HB6.out⟩
   by_cases hp2:119<pe
   ·clear HIn HPn HPo HPr HEr HE2 HG6 HCc;go_wp2;go_ret;exact ⟨rfl,HB6.out⟩
   have HPe:Hid (1≤pe∧pe≤119):=⟨by omega,by omega⟩
   have HP6:Hid (Calls _ _ _ _ _):=HG6.out.plans HZ.out pla pls plc HPn.out.1 HPn.out.2;clear HG6 HB6 HPn;go_wp2_with fail;refine HP6.out.mono ?_;rintro e w7 ⟨E7,rfl,_,HG7⟩;have HP7:Hid (Calls _ _ _ _ _):=HG7.out.pools HZ.out poa pos poc HPo.out.1 HPo.out.2;clear HP6 HG7 HPo hp1 hp2;go_wp2_with fail;refine HP7.out.mono ?_;rintro e w8 ⟨E8,rfl,_,HG8⟩;have HP8:Hid (Calls _ _ _ _ _):=HG8.out.pairs HZ.out pra prs prc HPr.out.1 HPr.out.2
   clear HP7 HG8 HPr;go_wp2_with fail;refine HP8.out.mono ?_;rintro e w9 ⟨E9,rfl,_,HG9⟩;have HI0:Hid (Gs w n0 B c pe 0 w9):=HG9.out.gs;clear HP8 HG9;go_upto_block 2 with fail
   go_cut [23] from 137 to 152 (fun _ wx=>Hid (Gs w n0 B c pe 0 wx))
   case first=>
    as_aux_lemma=>
     clear HPe HCc HEr HE2;go_wp2_with fail;go_loopw [23] (fun i wr=>∃ k:Nat,k≤L.length∧k≤20∧i=.int .i64 k∧Hid (Gs w n0 B c pe 0 wr)) (fun i _=>20 - (RowKit.intOf i).toNat)
     case atStart=>exact ⟨0,Nat.zero_le _,Nat.zero_le _,rfl,HI0⟩
     case round=>
      rename World=>wr
      obtain ⟨k,hk,hk20,rfl,HI⟩:=hrel;clear HI0;by_cases hlt:k<L.length
      ·by_cases h20:k<20
       ·have hjs:=(HIn.out wr HI.out.lo).2;rcases hjs.lies with h0 | ⟨b1,o1,rfl,hb1,hat1⟩
        ·rw [h0] at hlt;simp at hlt
        have hx:=hat1 k hlt;have hln:=hjs.lns _ (Qb0 L k hlt);generalize L.getD k je0=x at *
        have HP:Hid (Calls prog 6 #[.pointer (some ⟨B,0,none⟩),.agg #[.string x.ref,.int .i64 x.ent,.int .i64 x.per,.slice x.adr x.lns.length x.cap]] wr fun e w'=>∃ n v,e=.returned (.tuple #[.int .i64 n,v])∧Hid (Gs w n0 B c pe 0 w')):=HI.out.post HZ.out x.ref x.ent x.per x.adr x.cap x.lns hln
        obtain ⟨x0,x1,x2,x3,x4,x5⟩:=x;obtain ⟨d0,d1,d2,d3⟩:=hx;simp only at d0 d1 d2 d3 HP;have q0:(0:Int)≤k:=by omega
        have q1:(k:Int)<L.length:=by omega
        have q2:(k:Int)<20:=by omega
        clear hat1 hln hjs HI;go_wp2_with fail;refine HP.out.mono ?_;rintro e w10 ⟨n10,v10,rfl,HO10⟩;clear HP d0 d1 d2 d3;go_wp2;go_roundw
        case rel=>exact ⟨k+1,by omega,by omega,by go_num,HO10⟩
        case measure=>simp [RowKit.intOf];omega
       ·have q1:(k:Int)<L.length:=by omega
        have q2:¬ (k:Int)<20:=by omega
        go_wp2;go_meet
        case rel=>exact HI
      ·have q1:¬ (k:Int)<L.length:=by omega
       go_wp2;go_meet
       case rel=>exact HI
   case rest=>
    clear HI0
    as_aux_lemma=>
     go_wp2_with fail;go_loopw [24] (fun i wr=>∃ k:Nat,k≤5∧i=.int .i64 k∧Hid (Gs w n0 B c pe (k:Int) wr)) (fun i _=>5 - (RowKit.intOf i).toNat)
     case atStart=>exact ⟨0,Nat.zero_le _,rfl,hcut⟩
     case round=>
      rename World=>wr
      obtain ⟨k,hk,rfl,HI⟩:=hrel;clear hcut;by_cases h5:k<5
      ·have HAd:Hid (Calls _ _ _ _ _):=HI.out.adv HZ.out;have q0:(k:Int)<5:=by omega
       clear HI HIn HPe HCc HEr HE2;go_wp2_with fail;refine HAd.out.mono ?_;rintro e w10 (⟨z,rfl,HG⟩ | ⟨n,rfl,HG⟩)
       ·obtain ⟨M,hM⟩:=HG.out.ents2;have HEn:Hid (Calls _ _ _ _ _):=hM w10 (Below.refl _ _);clear HAd hM;go_wp2_with fail;refine HEn.out.mono ?_;rintro e w11 ⟨a11,q11,L11,rfl,h11⟩;have HZe:Hid (Calls prog 14 #[.slice a11 L11.length q11] w11 fun e w'=>e=.returned (.bool true)∧Hid (Gs w n0 B c pe (k:Int) w')):=by
         obtain ⟨js,_,hl,_,hev,hb⟩:=h11.out;refine (zero_any a11 q11 L11 w11 (by omega) js hev).mono ?_
         rintro e w' ⟨rfl,hb2⟩;exact ⟨rfl,(HG.out.below hb).below hb2⟩
        clear HEn h11;go_wp2_with fail;refine HZe.out.mono ?_;rintro e w12 ⟨rfl,HG12⟩;have HSt:Hid (Calls _ _ _ _ _):=HG12.out.stage;have HB12:Hid (Below w.heap.size w w12):=HG12.out.lo;clear HZe HG12 HG;go_wp2_with fail;refine HSt.out.mono ?_;rintro e w' ⟨rfl,hw⟩;rw [hw];clear hw w' HSt;go_wp2;go_ret;exact ⟨rfl,HB12.out⟩
       ·obtain ⟨M,hM⟩:=HG.out.ents2;have HEn:Hid (Calls _ _ _ _ _):=hM w10 (Below.refl _ _);clear HAd hM;go_wp2_with fail;refine HEn.out.mono ?_;rintro e w11 ⟨a11,q11,L11,rfl,h11⟩;have HZe:Hid (Calls prog 14 #[.slice a11 L11.length q11] w11 fun e w'=>e=.returned (.bool true)∧Hid (Gs w n0 B c pe ((k:Int)+1) w')):=by
         obtain ⟨js,_,hl,_,hev,hb⟩:=h11.out;refine (zero_any a11 q11 L11 w11 (by omega) js hev).mono ?_
         rintro e w' ⟨rfl,hb2⟩;exact ⟨rfl,(HG.out.below hb).below hb2⟩
        clear HEn h11;go_wp2_with fail;refine HZe.out.mono ?_;rintro e w12 ⟨rfl,HG12⟩;clear HZe HG;go_wp2;go_roundw
        case rel=>exact ⟨k+1,by omega,by go_num,HG12⟩
        case measure=>simp [RowKit.intOf];omega
      ·obtain rfl:k=5:=by omega
       have q0:¬ ((5:Nat):Int)<5:=by omega
       obtain ⟨M,hM⟩:=HI.out.ents2;have HM0:Hid (∀ U,Below wr.heap.size wr U→Calls prog 9 #[.pointer (some ⟨B,0,none⟩)] U (EnEnd U M)):=hM;have HEn:Hid (Calls _ _ _ _ _):=hM wr (Below.refl _ _);have HG0:Hid (∀ U,Below wr.heap.size wr U→Gs w n0 B c pe 5 U):=fun U hU=>HI.out.below hU
       clear hM HI h5 hk;go_wp2_with fail;refine HEn.out.mono ?_;rintro e w10 ⟨a10,q10,L10,rfl,h10⟩;have HTr:Hid (Calls prog 15 #[.slice a10 L10.length q10,.int .i64 1,.int .i64 pe] w10 fun e w'=>(∃ n v,e=.returned (.tuple #[v,.iface 68 (.int .i64 n)])∧v=.slice none 0 0∧Hid (Below wr.heap.size wr w'))∨(∃ sa sc R,e=.returned (.tuple #[.slice sa R.length sc,.nilIface])∧Hid (Below wr.heap.size wr w'∧Qcp w' sa R sc∧R.length≤200∧∀ N:List Je,N.map Je.ep=M.map Je.ep→oeE (Qb9 1 pe) N=0∧∀ Q,OeR (Qb9 1 pe) N Q→Q=R))):=by
        obtain ⟨js,he,hl,hok,_,hb⟩:=h10.out;refine (trial_any a10 q10 L10 w10 1 pe (by omega) js hok).mono ?_
        rintro e w' (⟨_,rfl,h1⟩ | ⟨h0,sa,sc,R,rfl,h1⟩)
        ·exact .inl ⟨_,_,rfl,rfl,hb.trans (h1.out.mono hb.size)⟩
        ·refine .inr ⟨sa,sc,R,rfl,hb.trans (h1.out.1.mono hb.size),h1.out.2.1,h1.out.2.2.len,fun N hN=>?_⟩
         have hN2:N.map Je.ep=L10.map Je.ep:=hN.trans he.symm;exact ⟨(oeE_eps (p:=Qb9 1 pe) (q:=qBoth 1 pe) (fun x=>rfl) hN2).trans h0,fun Q hQ=>oeR_eps (p:=Qb9 1 pe) (q:=qBoth 1 pe) (fun x=>rfl) hN2 hQ h1.out.2.2⟩
       clear HEn h10;go_wp2_with fail;refine HTr.out.mono ?_;rintro e w11 (⟨n11,v11,rfl,rfl,h11⟩ | ⟨sa,sc,R,rfl,h11⟩)
       ·have HSt:Hid (Calls _ _ _ _ _):=(HG0.out w11 h11.out).stage;have HB:Hid (Below w.heap.size w w11):=(HG0.out w11 h11.out).lo;clear HTr HM0 HIn HPe HCc HEr HE2 HG0 h11;go_wp2_with fail;refine HSt.out.mono ?_;rintro e w' ⟨rfl,hw⟩;rw [hw];clear hw w' HSt;go_wp2;go_ret;exact ⟨rfl,HB.out⟩
       have HG:Hid (∀ U,Below w11.heap.size w11 U→Gs w n0 B c pe 5 U):=fun U hU=>HG0.out U (h11.out.1.trans (hU.mono h11.out.1.size))
       have HM:Hid (∀ U,Below w11.heap.size w11 U→Calls prog 9 #[.pointer (some ⟨B,0,none⟩)] U (EnEnd U M)):=fun U hU=>HM0.out U (h11.out.1.trans (hU.mono h11.out.1.size))
       have HBl:Hid (Qcp w11 sa R sc):=h11.out.2.1;have HRq:Hid (R.length≤200∧∀ N:List Je,N.map Je.ep=M.map Je.ep→oeE (Qb9 1 pe) N=0∧∀ Q,OeR (Qb9 1 pe) N Q→Q=R):=h11.out.2.2;have HSt:Hid (Calls _ _ _ _ _):=(HG.out w11 (Below.refl _ _)).stage;clear HTr HG0 HM0 h11;go_wp2_with fail;refine HSt.out.mono ?_;rintro e w' ⟨rfl,hw⟩;rw [hw];clear hw w' HSt;go_wp2_with fail;refine (HE2.out w11).mono ?_
       rintro e w12 ⟨la12,lc12,rfl,h12⟩;have b12:Below w11.heap.size w11 w12:=h12.out.2;have HPo:Hid (Calls _ _ _ _ _):=(HG.out w12 b12).late ⟨#[108,97,116,101]⟩ 1 la12 lc12 fLn h12.out.1;have HB12:Hid (Below w11.heap.size w11 w12):=b12;clear h12 b12;go_wp2_with fail;refine HPo.out.mono ?_;rintro e w13 ⟨n,hn0,hn7,hnb,rfl,hb13⟩;have b13:Below w11.heap.size w11 w13:=HB12.out.trans (hb13.mono HB12.out.size)
       have HB13:Hid (Below w11.heap.size w11 w13):=b13;have HEe:Hid (Calls prog 16 #[.iface 68 (.int .i64 n),.int .i64 7] w13 fun e w'=>∃ tb,e=.returned (.bool tb)∧Hid ((QaZ c ⟨#[108,97,116,101]⟩ 1 pe fLn=0→tb=true)∧Below w11.heap.size w11 w')):=by
        have hr:=ce_entBad c ⟨#[108,97,116,101]⟩ 1 pe fLn;refine (HEr.out n w13 (by omega) (by omega) (HG.out w13 b13).lo).mono ?_
        rintro e w' ⟨rfl,hb⟩;exact ⟨_,rfl,fun h0=>by rw [hn7 h0];rfl,b13.trans (hb.mono b13.size)⟩
       clear HPo HB12 hb13 b13 hn0 hn7 hnb;go_wp2_with fail;refine HEe.out.mono ?_;rintro e w14 ⟨tb,rfl,h14⟩;clear HEe HB13;go_wp2_with fail;refine (HE2.out w14).mono ?_;rintro e w15 ⟨la15,lc15,rfl,h15⟩;have b15:Below w11.heap.size w11 w15:=h14.out.2.trans (h15.out.2.mono h14.out.2.size);have HRe:Hid (Calls prog 17 #[.slice a c.length cap,.agg #[.string ⟨#[108,97,116,101]⟩,.int .i64 1,.int .i64 pe,.slice la15 2 lc15]] w15 fun e w'=>∃ eb,e=.returned (.int .i64 eb)∧Hid ((eb=0→tb=true)∧Below w11.heap.size w11 w')):=by
        refine (refEntry_any a cap c ⟨#[108,97,116,101]⟩ 1 pe la15 lc15 fLn w15 (HIn.out w15 (HG.out w15 b15).lo).1 (chart_sizes HCc.out.1) h15.out.1).mono ?_;rintro e w' ⟨rfl,hb⟩;exact ⟨_,rfl,h14.out.1,b15.trans (hb.mono b15.size)⟩
       clear h14 h15 b15 HE2;go_wp2_with fail;refine HRe.out.mono ?_;rintro e w16 ⟨eb,rfl,h16⟩;have HB16:Hid (Below w11.heap.size w11 w16):=h16.out.2;have heb:=h16.out.1;clear HRe h16;go_upto_region 41 with fail
       go_cut [206] from 46 (fun t wx=>t=.bool false∧wx=w16)
       case first=>
        clear HIn HPe HCc HEr HM HG HBl HRq HB16;by_cases e0:eb=0
        ·have et:=heb e0;subst et;subst e0;clear heb;go_wp2;go_meet
         case rel=>exact ⟨rfl,rfl⟩
        ·clear heb;go_wp2;go_meet
         case rel=>exact ⟨rfl,rfl⟩
       case rest=>
        obtain ⟨rfl,rfl⟩:=hcut;clear heb;have HEn:Hid (Calls _ _ _ _ _):=HM.out _ HB16.out;go_wp2_with fail;refine HEn.out.mono ?_;rintro e w17 ⟨a17,q17,L17,rfl,h17⟩;have HTr:Hid (Calls prog 15 #[.slice a17 L17.length q17,.int .i64 1,.int .i64 pe] w17 fun e w'=>∃ sb sd,e=.returned (.tuple #[.slice sb R.length sd,.nilIface])∧Hid (Below w11.heap.size w11 w'∧Qcp w' sb R sd∧Qcp w' sa R sc)):=by
         obtain ⟨js,he,hl,hok,_,hb⟩:=h17.out;obtain ⟨g0,gR⟩:=HRq.out.2 L17 he;have b17:=HB16.out.trans (hb.mono HB16.out.size);refine (trial_any a17 q17 L17 w17 1 pe (by omega) js hok).mono ?_
         rintro e w' (⟨h0,_⟩ | ⟨h0,sb,sd,R2,rfl,h1⟩)
         ·exact absurd g0 h0
         ·obtain rfl:=gR R2 h1.out.2.2;have bb:=b17.trans (h1.out.1.mono b17.size);exact ⟨sb,sd,rfl,bb,h1.out.2.1,HBl.out.below bb⟩
        clear HEn h17;go_wp2_with fail;refine HTr.out.mono ?_;rintro e w18 ⟨sb,sd,rfl,h18⟩;have HSm:Hid (Calls prog 18 #[.slice sa R.length sc,.slice sb R.length sd] w18 fun e w'=>e=.returned (.bool true)∧Hid (Below w11.heap.size w11 w')):=by
         refine (sameBals_any sa sb sc sd R w18 (by have:=HRq.out.1;omega) h18.out.2.2 h18.out.2.1).mono ?_
         rintro e w' ⟨rfl,hb⟩;exact ⟨rfl,h18.out.1.trans (hb.mono h18.out.1.size)⟩
        clear HTr HRq HBl HB16 HM h18;go_wp2_with fail;refine HSm.out.mono ?_;rintro e w19 ⟨rfl,h19⟩;have HAd:Hid (Calls _ _ _ _ _):=(HG.out w19 h19.out).adv6 HZ.out HCc.out.2;clear HSm h19 HG;go_wp2_with fail;refine HAd.out.mono ?_;rintro e w20 (⟨z,rfl,h20⟩ | ⟨n20,rfl,h20⟩)
        ·have HSt:Hid (Calls _ _ _ _ _):=h20.out.stage;have HB:Hid (Below w.heap.size w w20):=h20.out.lo;clear HAd h20 HIn HPe HCc HEr;go_wp2_with fail;refine HSt.out.mono ?_;rintro e w' ⟨rfl,hw⟩;rw [hw];clear hw w' HSt;go_wp2;go_ret;exact ⟨rfl,HB.out⟩
        ·have HBa:Hid (Calls _ _ _ _ _):=h20.out.bals;clear HAd;go_wp2_with fail;refine HBa.out.mono ?_;rintro e w21 (⟨v,z,rfl,rfl,h21⟩ | ⟨ba,bq,Q,rfl,h21⟩)
         ·have HB:Hid (Below w.heap.size w w21):=h20.out.lo.trans (h21.out.mono h20.out.lo.size);clear HBa h20 h21 HIn HPe HCc HEr;go_wp2;go_ret;exact ⟨rfl,HB.out⟩
         ·have HE21:Hid (GsE w n0 B c pe w21):=h20.out.below h21.out.2.2.2;clear HBa h20;go_wp2_with fail;go_loop [38] (fun i=>∃ j:Nat,j≤Q.length∧i=.int .i64 j) (fun i=>Q.length - (RowKit.intOf i).toNat)
          case atStart=>exact ⟨0,Nat.zero_le _,rfl⟩
          case round=>
           obtain ⟨j,hj,rfl⟩:=hrel;by_cases hjl:j<Q.length
           ·obtain ⟨isb,_,hkd,_⟩:=h21.out;rcases isb.lies with h0 | ⟨bb,bo,rfl,hbb,hat⟩
            ·rw [h0] at hjl;simp at hjl
            have d1:=(hat j hjl).c1;obtain ⟨jj,hjj,ejj,hk3⟩:=hkd _ (bls_mem Q j hjl);have hsl:=(HIn.out w21 HE21.out.lo).1;have HAt:Hid (Calls prog 20 #[.slice a c.length cap,.string (Q.getD j bl0).acc] w21 fun e w'=>e=.returned (.int .i64 (jj:Int))∧w'=w21):=by
             have:=Qhg a cap c (Q.getD j bl0).acc w21 (by have:=Qb5 HCc.out.1;omega) hsl
             rw [ejj] at this;exact this
            rcases hsl.lies with h0 | ⟨cb,co,rfl,hcb,hct⟩
            ·rw [h0] at hjj;simp at hjj
            have d2:=(hct jj hjj).c2;generalize (c.getD jj ac0).kind=kd at d2 hk3;generalize (Q.getD j bl0).acc=ac at *
            have m0:(0:Int)≤j:=by omega
            have m1:(j:Int)<Q.length:=by omega
            have m2:¬ (jj:Int)<0:=by omega
            have m2':(0:Int)≤jj:=by omega
            have m3:(jj:Int)<c.length:=by omega
            have m4:¬ 3<kd:=by omega
            clear hat hct isb hsl hkd HIn HPe HCc HEr HE21 ejj;go_wp2_with fail;refine HAt.out.mono ?_;rintro e w' ⟨rfl,hw⟩;rw [hw];clear hw w' HAt;go_wp2;go_round
            case rel=>exact ⟨j+1,by omega,by go_num⟩
            case measure=>simp [RowKit.intOf];omega
           ·have m1:¬ (j:Int)<Q.length:=by omega
            obtain ⟨M2,hM2⟩:=HE21.out.ents2;have HM2:Hid (∀ U,Below w21.heap.size w21 U→Calls prog 9 #[.pointer (some ⟨B,0,none⟩)] U (EfEnd U M2)):=hM2;have HEn:Hid (Calls _ _ _ _ _):=hM2 w21 (Below.refl _ _);clear hM2 h21 HIn HCc hjl hj;go_wp2_with fail;refine HEn.out.mono ?_;rintro e w22 ⟨a22,q22,L22,rfl,h22⟩;have HE22:Hid (GsE w n0 B c pe w22):=HE21.out.below h22.out.2.2.2.2;have HAd2:Hid (Calls _ _ _ _ _):=HE22.out.adv (by have:=HPe.out;unfold Qak;simp;omega)
            clear HEn HE21;go_wp2_with fail;refine HAd2.out.mono ?_;rintro e w23 ⟨rfl,h23⟩;have H23:Hid (Below w22.heap.size w22 w23):=h23;have HEe:Hid (Calls prog 16 #[.iface 68 (.int .i64 7),.int .i64 7] w23 fun e w'=>e=.returned (.bool true)∧Hid (Below w22.heap.size w22 w')):=by
             refine (HEr.out 7 w23 (by omega) (by omega) (HE22.out.below h23).lo).mono ?_
             rintro e w' ⟨rfl,hb⟩;exact ⟨rfl,h23.trans (hb.mono h23.size)⟩
            clear HAd2 h23 H23 HEr HPe;go_wp2_with fail;refine HEe.out.mono ?_;rintro e w24 ⟨rfl,h24⟩;have HEn2:Hid (Calls _ _ _ _ _):=HM2.out w24 (h22.out.2.2.2.2.trans (h24.out.mono h22.out.2.2.2.2.size));clear HEe HM2;go_wp2_with fail;refine HEn2.out.mono ?_;rintro e w25 ⟨a25,q25,L25,rfl,h25⟩;have HSm:Hid (Calls prog 21 #[.slice a22 L22.length q22,.slice a25 L25.length q25] w25 fun e w'=>e=.returned (.bool true)∧Hid (Below w22.heap.size w22 w')):=by
             have b25:=h24.out.trans (h25.out.2.2.2.2.mono h24.out.size);refine (QhT a22 a25 q22 q25 L22 L25 w25 (by have:=h22.out.2.2.1;omega) (h22.out.2.1.trans h25.out.2.1.symm) (fun x hx=>by have:=(h22.out.2.2.2.1 x hx).2.1;omega) (h22.out.1.below b25) h25.out.1).mono ?_
             rintro e w' ⟨rfl,hb⟩;exact ⟨rfl,b25.trans (hb.mono b25.size)⟩
            clear HEn2 h24 h25;go_wp2_with fail;refine HSm.out.mono ?_;rintro e w26 ⟨rfl,h26⟩;have HZe:Hid (Calls prog 14 #[.slice a22 L22.length q22] w26 fun e w'=>e=.returned (.bool true)∧Hid (Below w.heap.size w w')):=by
             refine (zero_any a22 q22 L22 w26 (by have:=h22.out.2.2.1;omega) (h22.out.1.below h26.out) h22.out.2.2.2.1).mono ?_
             rintro e w' ⟨rfl,hb⟩;have b1:=HE22.out.lo.trans (h26.out.mono HE22.out.lo.size);exact ⟨rfl,b1.trans (hb.mono b1.size)⟩
            clear HSm h22 h26 HE22;go_wp2_with fail;refine HZe.out.mono ?_;rintro e w27 ⟨rfl,h27⟩;clear HZe;go_wp2;go_ret;exact ⟨rfl,h27.out⟩
end
section
open Go.RowKit Go.Lib Go.Deep Go.Proofs.Tryz
section
variable {H:Type} {enc:TypeId×Value→H} {w:World} {base:Nat} {spare:Nat→Bool} {held:Bool}
theorem QhZ {m:Nat} {c:Value} {y:DataW H×List MemPlace} (h:DataW.trod enc prog w base spare held m 9 [c]=some y):∃ s,c=.string s∧s.size≤maxLen:=by
 cases m with
 | zero=>simp [DataW.trod] at h
 | succ m=>
  rw [DataW.trod_step] at h;unfold DataW.trodStep at h;rw [underlying9] at h;cases c <;> simp at h
  exact ⟨_,rfl,h.1⟩
theorem ch_int {m:Nat} {c:Value} {y:DataW H×List MemPlace} (h:DataW.trod enc prog w base spare held m 3 [c]=some y):∃ n,c=.int .i64 n∧(Lit.int .i64 n).wf=true:=by
 cases m with
 | zero=>simp [DataW.trod] at h
 | succ m=>
  rw [DataW.trod_step] at h;unfold DataW.trodStep at h;rw [underlying3] at h;cases c <;> simp at h
  rename_i k n;obtain ⟨⟨rfl,h2⟩,_⟩:=h;exact ⟨n,rfl,h2⟩
theorem ch_bool {m:Nat} {c:Value} {y:DataW H×List MemPlace} (h:DataW.trod enc prog w base spare held m 4 [c]=some y):∃ n,c=.bool n:=by
 cases m with
 | zero=>simp [DataW.trod] at h
 | succ m=>
  rw [DataW.trod_step] at h;unfold DataW.trodStep at h;rw [underlying4] at h;cases c <;> simp at h
  exact ⟨_,rfl⟩
def AcOk (a:Ac):Prop:=a.code.size≤maxLen∧a.name.size≤maxLen∧(Lit.int .i64 a.kind).wf=true∧a.par.size≤maxLen
theorem Qi3:prog.cellsOf 60=5:=by kernel_rfl
theorem acct_str:prog.cellsOf 9=1:=by kernel_rfl
theorem acct_int:prog.cellsOf 3=1:=by kernel_rfl
theorem acct_bool:prog.cellsOf 4=1:=by kernel_rfl
theorem open_acct {m:Nat} {cs:List Value} {x:DataW H×List MemPlace} (h:DataW.trod enc prog w base spare held m 60 cs=some x):∃ a:Ac,cs=a.cells.toList∧AcOk a:=by
 cases m with
 | zero=>simp [DataW.trod] at h
 | succ m=>
  rw [DataW.trod_step] at h;unfold DataW.trodStep at h;rw [underlying60] at h;simp only [Qi3] at h;split at h
  ·rename_i hl
   match cs,hl with
   | [c0,c1,c2,c3,c4],_=>
    simp [acct_str,acct_int,acct_bool] at h;cases h0:DataW.trod enc prog w base spare held m 9 [c0]
    ·simp [h0] at h
    cases h1:DataW.trod enc prog w base spare held m 9 [c1]
    ·simp [h0,h1] at h
    cases h2:DataW.trod enc prog w base spare held m 3 [c2]
    ·simp [h0,h1,h2] at h
    cases h3:DataW.trod enc prog w base spare held m 9 [c3]
    ·simp [h0,h1,h2,h3] at h
    cases h4:DataW.trod enc prog w base spare held m 4 [c4]
    ·simp [h0,h1,h2,h3,h4] at h
    obtain ⟨f,rfl,hf⟩:=QhZ h0;obtain ⟨t,rfl,ht⟩:=QhZ h1;obtain ⟨p,rfl,hp⟩:=ch_int h2;obtain ⟨n,rfl,hn⟩:=QhZ h3;obtain ⟨d,rfl⟩:=ch_bool h4;exact ⟨⟨f,t,p,n,d⟩,rfl,hf,ht,hp,hn⟩
  ·cases h
theorem ac_cells (w:World) (b off:Nat) (a:Ac) (h:∀ i,i<5→w.cell? ⟨b,off+i,none⟩=a.cells.toList[i]?):AcAt w b off a:=
 ⟨h 0 (by omega),h 1 (by omega),h 2 (by omega),h 3 (by omega),h 4 (by omega)⟩
theorem ch_add (b off n:Nat):(⟨b,off,none⟩:Addr).add n=⟨b,off+n,none⟩:=by
 unfold Addr.add
 split
 ·rename_i h;subst h;rfl
 ·rfl
theorem acs_of_trod {W:World} {a:Option Addr} {len cap fuel:Nat} {x:DataW H×List MemPlace} (h:DataW.trod enc prog W 0 (fun _=>true) true fuel 22 [.slice a len cap]=some x) :
  ∃ l:List Ac,l.length=len∧(∀ k,k<l.length→AcOk (l.getD k ac0))∧QbJ W a l cap:=by
 rcases open_slice underlying22 h with ⟨hcs,_⟩ | ⟨x,l,c,m,n,D,Pl,hcs,_,hl,hm,hmm,_,hx⟩
 ·simp at hcs;obtain ⟨rfl,rfl,rfl⟩:=hcs;exact ⟨[],rfl,by simp,⟨by simp,.inl rfl⟩⟩
 ·simp at hcs;obtain ⟨rfl,rfl,rfl⟩:=hcs;have hmm2:m=cap:=hmm;rw [Qi3] at hx;have hr:∀ i,i<len→∃ r:Ac,(∀ j,j<5→W.cell? ((x.add (i*5)).add j)=r.cells.toList[j]?)∧AcOk r:=fun i hi=>by
   obtain ⟨cs',h1,h2⟩:=hx i (by omega)
   obtain ⟨r,rfl,ok⟩:=open_acct h2;exact ⟨r,(World.cells?_some h1).2.2,ok⟩
  obtain ⟨f,hf⟩:=@choose_lt Ac ⟨ac0⟩ _ _ hr;have hget:∀ k,k<len→((List.range len).map f).getD k ac0=f k:=fun k hk=>by simp [List.getD,hk]
  have hlen:((List.range len).map f).length=len:=by simp
  refine ⟨(List.range len).map f,hlen,fun k hk=>?_,⟨by rw [hlen];exact hl,?_⟩⟩
  ·rw [hlen] at hk;rw [hget k hk];exact (hf k hk).2
  ·by_cases h0:len=0
   ·subst h0;exact .inl rfl
   ·right
    obtain ⟨b,off,spot⟩:=x;have hc:W.cell? ⟨b,off,spot⟩=some (.string (f 0).code):=(hf 0 (by omega)).1 0 (by omega)
    have hspot:spot=none:=World.cell?_spot hc;subst hspot;have hlt:b<W.heap.size:=World.block_lt_of_cell? _ _ hc;refine ⟨b,off,rfl,hlt,fun k hk=>?_⟩
    rw [hlen] at hk;rw [hget k hk];refine ac_cells W b (off+k*5) (f k) (fun i hi=>?_)
    have:=(hf k hk).1 i hi
    rw [ch_add,ch_add] at this;exact this
end
end
section
open Go.RowKit Go.Lib Go.Maps Go.Deep Go.Proofs.Tryz
section
variable {H:Type} {enc:TypeId×Value→H} {w:World} {base:Nat} {spare:Nat→Bool} {held:Bool}
theorem Qid {m:Nat} {c:Value} {y:DataW H×List MemPlace} (h:DataW.trod enc prog w base spare held m 9 [c]=some y):∃ s,c=.string s∧s.size≤maxLen:=by
 cases m with
 | zero=>simp [DataW.trod] at h
 | succ m=>
  rw [DataW.trod_step] at h;unfold DataW.trodStep at h;rw [underlying9] at h;cases c <;> simp at h
  exact ⟨_,rfl,h.1⟩
theorem cell_int {m:Nat} {c:Value} {y:DataW H×List MemPlace} (h:DataW.trod enc prog w base spare held m 3 [c]=some y):∃ n,c=.int .i64 n∧(Lit.int .i64 n).wf=true:=by
 cases m with
 | zero=>simp [DataW.trod] at h
 | succ m=>
  rw [DataW.trod_step] at h;unfold DataW.trodStep at h;rw [underlying3] at h;cases c <;> simp at h
  rename_i k n;obtain ⟨⟨rfl,h2⟩,_⟩:=h;exact ⟨n,rfl,h2⟩
def RtOk (r:Rt):Prop:=r.frm.size≤maxLen∧r.dst.size≤maxLen∧(Lit.int .i64 r.per).wf=true∧(Lit.int .i64 r.num).wf=true∧(Lit.int .i64 r.den).wf=true
theorem Qjj:prog.cellsOf 75=5:=by kernel_rfl
theorem open_rate {m:Nat} {cs:List Value} {x:DataW H×List MemPlace} (h:DataW.trod enc prog w base spare held m 75 cs=some x):∃ r:Rt,cs=r.cells.toList∧RtOk r:=by
 cases m with
 | zero=>simp [DataW.trod] at h
 | succ m=>
  rw [DataW.trod_step] at h;unfold DataW.trodStep at h;rw [underlying75] at h;simp only [Qjj] at h;split at h
  ·rename_i hl
   match cs,hl with
   | [c0,c1,c2,c3,c4],_=>
    simp [str_cells,int_cells] at h;cases h0:DataW.trod enc prog w base spare held m 9 [c0]
    ·simp [h0] at h
    cases h1:DataW.trod enc prog w base spare held m 9 [c1]
    ·simp [h0,h1] at h
    cases h2:DataW.trod enc prog w base spare held m 3 [c2]
    ·simp [h0,h1,h2] at h
    cases h3:DataW.trod enc prog w base spare held m 3 [c3]
    ·simp [h0,h1,h2,h3] at h
    cases h4:DataW.trod enc prog w base spare held m 3 [c4]
    ·simp [h0,h1,h2,h3,h4] at h
    obtain ⟨f,rfl,hf⟩:=Qid h0;obtain ⟨t,rfl,ht⟩:=Qid h1;obtain ⟨p,rfl,hp⟩:=cell_int h2;obtain ⟨n,rfl,hn⟩:=cell_int h3;obtain ⟨d,rfl,hd⟩:=cell_int h4;exact ⟨⟨f,t,p,n,d⟩,rfl,hf,ht,hp,hn,hd⟩
  ·cases h
theorem rt_cells (w:World) (b off:Nat) (r:Rt) (h:∀ i,i<5→w.cell? ⟨b,off+i,none⟩=r.cells.toList[i]?):RtAt w b off r:=
 ⟨h 0 (by omega),h 1 (by omega),h 2 (by omega),h 3 (by omega),h 4 (by omega)⟩
theorem add_none (b off n:Nat):(⟨b,off,none⟩:Addr).add n=⟨b,off+n,none⟩:=by
 unfold Addr.add
 split
 ·rename_i h;subst h;rfl
 ·rfl
end
end
section
open Go.RowKit Go.Lib Go.Deep Go.Proofs.Tryz
section
variable {H:Type} {enc:TypeId×Value→H} {w:World} {base:Nat} {spare:Nat→Bool} {held:Bool}
theorem Qh1 {m:Nat} {c:Value} {y:DataW H×List MemPlace} (h:DataW.trod enc prog w base spare held m 9 [c]=some y):∃ s,c=.string s∧s.size≤maxLen:=by
 cases m with
 | zero=>simp [DataW.trod] at h
 | succ m=>
  rw [DataW.trod_step] at h;unfold DataW.trodStep at h;rw [underlying9] at h;cases c <;> simp at h
  exact ⟨_,rfl,h.1⟩
theorem en_int {m:Nat} {c:Value} {y:DataW H×List MemPlace} (h:DataW.trod enc prog w base spare held m 3 [c]=some y):∃ n,c=.int .i64 n∧(Lit.int .i64 n).wf=true:=by
 cases m with
 | zero=>simp [DataW.trod] at h
 | succ m=>
  rw [DataW.trod_step] at h;unfold DataW.trodStep at h;rw [underlying3] at h;cases c <;> simp at h
  rename_i k n;obtain ⟨⟨rfl,h2⟩,_⟩:=h;exact ⟨n,rfl,h2⟩
theorem QiY:prog.cellsOf 44=3:=by kernel_rfl
theorem Qg7:prog.cellsOf 38=4:=by kernel_rfl
theorem line_str:prog.cellsOf 9=1:=by kernel_rfl
theorem line_int:prog.cellsOf 3=1:=by kernel_rfl
theorem line_sl:prog.cellsOf 36=1:=by kernel_rfl
theorem open_line {m:Nat} {cs:List Value} {x:DataW H×List MemPlace} (h:DataW.trod enc prog w base spare held m 44 cs=some x):∃ a:Ln,cs=a.cells.toList∧(Lit.int .i64 a.amt).wf=true:=by
 cases m with
 | zero=>simp [DataW.trod] at h
 | succ m=>
  rw [DataW.trod_step] at h;unfold DataW.trodStep at h;rw [underlying44] at h;simp only [QiY] at h;split at h
  ·rename_i hl
   match cs,hl with
   | [c0,c1,c2],_=>
    simp [line_str,line_int] at h;cases h0:DataW.trod enc prog w base spare held m 9 [c0]
    ·simp [h0] at h
    cases h1:DataW.trod enc prog w base spare held m 9 [c1]
    ·simp [h0,h1] at h
    cases h2:DataW.trod enc prog w base spare held m 3 [c2]
    ·simp [h0,h1,h2] at h
    obtain ⟨f,rfl,hf⟩:=Qh1 h0;obtain ⟨t,rfl,ht⟩:=Qh1 h1;obtain ⟨p,rfl,hp⟩:=en_int h2;exact ⟨⟨f,t,p⟩,rfl,hp⟩
  ·cases h
theorem en_add (b off n:Nat):(⟨b,off,none⟩:Addr).add n=⟨b,off+n,none⟩:=by
 unfold Addr.add
 split
 ·rename_i h;subst h;rfl
 ·rfl
theorem lns_of_trod {W:World} {a:Option Addr} {len cap fuel:Nat} {x:DataW H×List MemPlace} (h:DataW.trod enc prog W 0 (fun _=>true) true fuel 36 [.slice a len cap]=some x) :
  ∃ l:List Ln,l.length=len∧Qc5 W a l cap∧(∀ x∈l,(Lit.int .i64 x.amt).wf=true):=by
 rcases open_slice underlying36 h with ⟨hcs,_⟩ | ⟨x,l,c,m,n,D,Pl,hcs,_,hl,hm,hmm,_,hx⟩
 ·simp at hcs;obtain ⟨rfl,rfl,rfl⟩:=hcs;exact ⟨[],rfl,⟨by simp,.inl rfl⟩,by simp⟩
 ·simp at hcs;obtain ⟨rfl,rfl,rfl⟩:=hcs;have hmm2:m=cap:=hmm;rw [QiY] at hx;have hr:∀ i,i<len→∃ r:Ln,(∀ j,j<3→W.cell? ((x.add (i*3)).add j)=r.cells.toList[j]?)∧(Lit.int .i64 r.amt).wf=true:=fun i hi=>by
   obtain ⟨cs',h1,h2⟩:=hx i (by omega)
   obtain ⟨r,rfl,hw⟩:=open_line h2;exact ⟨r,(World.cells?_some h1).2.2,hw⟩
  obtain ⟨f,hf⟩:=@choose_lt Ln ⟨ln0⟩ _ _ hr;have hget:∀ k,k<len→((List.range len).map f).getD k ln0=f k:=fun k hk=>by simp [List.getD,hk]
  have hlen:((List.range len).map f).length=len:=by simp
  refine ⟨(List.range len).map f,hlen,⟨by rw [hlen];exact hl,?_⟩,?_⟩
  ·by_cases h0:len=0
   ·subst h0;exact .inl rfl
   ·right
    obtain ⟨b,off,spot⟩:=x;have hc:W.cell? ⟨b,off,spot⟩=some (.string (f 0).acc):=(hf 0 (by omega)).1 0 (by omega)
    have hspot:spot=none:=World.cell?_spot hc;subst hspot;have hlt:b<W.heap.size:=World.block_lt_of_cell? _ _ hc;refine ⟨b,off,rfl,hlt,fun k hk=>?_⟩
    rw [hlen] at hk;rw [hget k hk];have C:∀ i,i<3→W.cell? ⟨b,off+k*3+i,none⟩=(f k).cells.toList[i]?:=fun i hi=>by
     have:=(hf k hk).1 i hi
     rw [en_add,en_add] at this;exact this
    exact ⟨C 0 (by omega),C 1 (by omega),C 2 (by omega)⟩
  ·intro y hy;obtain ⟨k,hk,rfl⟩:=List.mem_map.1 hy;exact (hf k (List.mem_range.1 hk)).2
theorem entry_of_trod {W:World} {v:Value} {fuel:Nat} {x:DataW H×List MemPlace} (hv:∃ cs,v=.agg cs∧cs.size=4) (h:DataW.trod enc prog W 0 (fun _=>true) true fuel 38 v.cells.toList=some x) :
  ∃ (r:ByteArray) (en pe:Int) (a:Option Addr) (l:List Ln) (cap:Nat),v=.agg #[.string r,.int .i64 en,.int .i64 pe,.slice a l.length cap]∧Qc5 W a l cap∧(∀ x∈l,(Lit.int .i64 x.amt).wf=true):=by
 obtain ⟨cs,rfl,hs⟩:=hv;obtain ⟨ls⟩:=cs
 cases fuel with
 | zero=>simp [DataW.trod] at h
 | succ m=>
  rw [DataW.trod_step] at h;unfold DataW.trodStep at h;rw [underlying38] at h;simp only [Qg7,Value.cells] at h
  match ls,hs with
  | [c0,c1,c2,c3],_=>
   simp [line_str,line_int,line_sl] at h;cases h0:DataW.trod enc prog W 0 (fun _=>true) true m 9 [c0]
   ·simp [h0] at h
   cases h1:DataW.trod enc prog W 0 (fun _=>true) true m 3 [c1]
   ·simp [h0,h1] at h
   cases h2:DataW.trod enc prog W 0 (fun _=>true) true m 3 [c2]
   ·simp [h0,h1,h2] at h
   cases h3:DataW.trod enc prog W 0 (fun _=>true) true m 36 [c3]
   ·simp [h0,h1,h2,h3] at h
   obtain ⟨r,rfl,_⟩:=Qh1 h0;obtain ⟨en,rfl,_⟩:=en_int h1;obtain ⟨pe,rfl,_⟩:=en_int h2;obtain ⟨a,len,cap,rfl⟩:∃ a len cap,c3=.slice a len cap:=by
    rcases open_slice underlying36 h3 with ⟨hcs,_⟩ | ⟨x,l,c,m,n,D,Pl,hcs,_⟩
    ·simp at hcs;exact ⟨_,_,_,hcs⟩
    ·simp at hcs;exact ⟨_,_,_,hcs⟩
   obtain ⟨l,hl,hsl,hw⟩:=lns_of_trod h3;subst hl;exact ⟨r,en,pe,a,l,cap,rfl,hsl,hw⟩
end
end
section
open Go.RowKit Go.Lib Go.Deep Go.Proofs.Tryz
section
variable {H:Type} {enc:TypeId×Value→H}
theorem jes_of_trod {W:World} {a:Option Addr} {len cap fuel:Nat} {x:DataW H×List MemPlace} (h:DataW.trod enc prog W 0 (fun _=>true) true fuel 27 [.slice a len cap]=some x) :
  ∃ L:List Je,L.length=len∧QdF W a L cap∧len≤maxLen:=by
 rcases open_slice underlying27 h with ⟨hcs,_⟩ | ⟨x,l,c,m,n,D,Pl,hcs,_,hl,hm,hmm,_,hx⟩
 ·simp at hcs;obtain ⟨rfl,rfl,rfl⟩:=hcs;exact ⟨[],rfl,⟨by simp,.inl rfl,by simp⟩,by unfold maxLen;omega⟩
 ·simp at hcs;obtain ⟨rfl,rfl,rfl⟩:=hcs;have hmm2:m=cap:=hmm;rw [Qg7] at hx;have hr:∀ i,i<len→∃ r:Je,W.cell? ((x.add (i*4)).add 0)=some (.string r.ref)∧W.cell? ((x.add (i*4)).add 1)=some (.int .i64 r.ent)∧W.cell? ((x.add (i*4)).add 2)=some (.int .i64 r.per)∧W.cell? ((x.add (i*4)).add 3)=some (.slice r.adr r.lns.length r.cap)∧Qc5 W r.adr r.lns r.cap:=fun i hi=>by
   obtain ⟨cs',h1,h2⟩:=hx i (by omega)
   have hc:=World.cells?_some h1;obtain ⟨r,en,pe,a',l',c',he,hsl,hw⟩:=entry_of_trod (v:=.agg cs'.toArray) ⟨_,rfl,by simpa using hc.2.1⟩ (by simpa [Value.cells] using h2)
   have he':cs'=[.string r,.int .i64 en,.int .i64 pe,.slice a' l'.length c']:=by
    have:=Value.agg.inj he
    simpa using congrArg Array.toList this
   subst he';have hc:=hc.2.2;exact ⟨⟨r,en,pe,a',c',l'⟩,hc 0 (by omega),hc 1 (by omega),hc 2 (by omega),hc 3 (by omega),hsl⟩
  obtain ⟨f,hf⟩:=@choose_lt Je ⟨je0⟩ _ _ hr;have hget:∀ k,k<len→((List.range len).map f).getD k je0=f k:=fun k hk=>by simp [List.getD,hk]
  have hlen:((List.range len).map f).length=len:=by simp
  refine ⟨(List.range len).map f,hlen,⟨by rw [hlen];exact hl,?_,?_⟩,Nat.le_trans hl hm⟩
  ·by_cases h0:len=0
   ·subst h0;exact .inl rfl
   ·right
    obtain ⟨b,off,spot⟩:=x;have hc:W.cell? ⟨b,off,spot⟩=some (.string (f 0).ref):=(hf 0 (by omega)).1
    have hspot:spot=none:=World.cell?_spot hc;subst hspot;have hlt:b<W.heap.size:=World.block_lt_of_cell? _ _ hc;refine ⟨b,off,rfl,hlt,fun k hk=>?_⟩
    rw [hlen] at hk;rw [hget k hk]
    have:=hf k hk
    simp only [en_add] at this;exact ⟨this.1,this.2.1,this.2.2.1,this.2.2.2.1⟩
  ·intro y hy;obtain ⟨k,hk,rfl⟩:=List.mem_map.1 hy;exact (hf k (List.mem_range.1 hk)).2.2.2.2
end
end
section
open Go.RowKit Go.Lib Go.Deep Go.Proofs.Tryz
section
variable {H:Type} {enc:TypeId×Value→H}
theorem rts_of_trod {W:World} {a:Option Addr} {len cap fuel:Nat} {x:DataW H×List MemPlace} (h:DataW.trod enc prog W 0 (fun _=>true) true fuel 23 [.slice a len cap]=some x) :
  ∃ l:List Rt,l.length=len∧IsRt W a l cap∧RtsOk l∧len≤maxLen:=by
 rcases open_slice underlying23 h with ⟨hcs,_⟩ | ⟨x,l,c,m,n,D,Pl,hcs,_,hl,hm,hmm,_,hx⟩
 ·simp at hcs;obtain ⟨rfl,rfl,rfl⟩:=hcs;exact ⟨[],rfl,⟨Nat.le_refl _,.inl rfl⟩,fun k hk=>absurd hk (by simp),by unfold maxLen;omega⟩
 ·simp at hcs;obtain ⟨rfl,rfl,rfl⟩:=hcs;have hmm2:m=cap:=hmm;rw [Qjj] at hx;have hr:∀ i,i<len→∃ r:Rt,(∀ j,j<5→W.cell? ((x.add (i*5)).add j)=r.cells.toList[j]?)∧RtOk r:=fun i hi=>by
   obtain ⟨cs',h1,h2⟩:=hx i (by omega)
   obtain ⟨r,rfl,ok⟩:=open_rate h2;exact ⟨r,(World.cells?_some h1).2.2,ok⟩
  obtain ⟨f,hf⟩:=@choose_lt Rt ⟨rt0⟩ _ _ hr;have hget:∀ k,k<len→((List.range len).map f).getD k rt0=f k:=fun k hk=>by simp [List.getD,hk]
  have hlen:((List.range len).map f).length=len:=by simp
  refine ⟨(List.range len).map f,hlen,⟨by rw [hlen];exact hl,?_⟩,fun k hk=>?_,Nat.le_trans hl hm⟩
  ·by_cases h0:len=0
   ·subst h0;exact .inl rfl
   ·right
    obtain ⟨b,off,spot⟩:=x;have hc:W.cell? ⟨b,off,spot⟩=some (.string (f 0).frm):=(hf 0 (by omega)).1 0 (by omega)
    have hspot:spot=none:=World.cell?_spot hc;subst hspot;have hlt:b<W.heap.size:=World.block_lt_of_cell? _ _ hc;refine ⟨b,off,rfl,hlt,fun k hk=>?_⟩
    rw [hlen] at hk;rw [hget k hk];refine rt_cells W b (off+k*5) (f k) (fun i hi=>?_)
    have:=(hf k hk).1 i hi
    rw [add_none,add_none] at this;exact this
  ·rw [hlen] at hk;rw [hget k hk];exact ⟨⟨(hf k hk).2.1,(hf k hk).2.2.1⟩,(hf k hk).2.2.2.1⟩
theorem jes3_of_trod {W:World} {a:Option Addr} {len cap fuel:Nat} {x:DataW H×List MemPlace} (h:DataW.trod enc prog W 0 (fun _=>true) true fuel 27 [.slice a len cap]=some x) :
  ∃ l:List Je,l.length=len∧QdF W a l cap∧True∧len≤maxLen:=by
 obtain ⟨L,h1,h2,h3⟩:=jes_of_trod h;exact ⟨L,h1,h2,trivial,h3⟩
end
end
end Go.Proofs.YtibhgngboljhfaaGreatDoor
