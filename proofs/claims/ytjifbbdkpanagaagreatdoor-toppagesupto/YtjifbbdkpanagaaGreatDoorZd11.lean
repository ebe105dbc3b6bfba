/-
  Part of a proof (see the last text).
-/
import Derived.Test.YtjifbbdkpanagaaGreatDoorZd10
set_option linter.unusedVariables false
set_option linter.unusedSimpArgs false
set_option maxRecDepth 100000
namespace Go.Proofs.YtjifbbdkpanagaaGreatDoor
section
open Go.RowKit Math Go.Proofs.Tryz
theorem wrap_rest (u v Q Y R:Nat) (h:u*4294967296+v=Q*Y+R) (hR:R<18446744073709551616) :
  IntKind.u64.wrap (IntKind.u64.wrap (IntKind.u64.wrap ((u:Int)*4294967296)+v) - IntKind.u64.wrap ((Q:Int)*Y))=R:=by
 have e:(u:Int)*4294967296+v=(Q:Int)*Y+R:=by
  have:=congrArg (Nat.cast:Nat→Int) h
  rw [Int.natCast_add,Int.natCast_mul,Int.natCast_add,Int.natCast_mul] at this;exact this
 rw [IntKind.wrap_u64,IntKind.wrap_u64,IntKind.wrap_u64,IntKind.wrap_u64];generalize (Q:Int)*Y=t at *
 omega
theorem wrap_quo (u y1:Nat) (hu:u<18446744073709551616):IntKind.u64.wrap ((u:Int) / y1)=(u / y1:Nat):=by
 rw [← Int.natCast_ediv];exact Qgp _ (Nat.lt_of_le_of_lt (Nat.div_le_self _ _) hu)
theorem wrap_rem (u y1:Nat) (hu:u<18446744073709551616):IntKind.u64.wrap (u - IntKind.u64.wrap ((u / y1:Nat)*y1))=(u % y1:Nat):=by
 have e:=Nat.div_add_mod' u y1;rw [mulN];generalize u / y1*y1=t at *
 generalize u % y1=r at *
 rw [Qgp t (by omega),IntKind.wrap_u64]
 omega
theorem pow_split (b:Nat) (h:b≤64):2 ^ (64 - b)*2 ^ b=18446744073709551616:=by
 rw [← Nat.pow_add,Nat.sub_add_cancel h]
theorem div64_nat (hi lo y:Nat) (w:World) (h0:1≤hi) (h1:hi<y) (h2:y<18446744073709551616) (h4:lo<18446744073709551616) :
  Calls prog 233 #[.int .u64 hi,.int .u64 lo,.int .u64 y] w fun e w'=>e=.returned (.tuple #[.int .u64 ((hi*18446744073709551616+lo) / y:Nat),.int .u64 ((hi*18446744073709551616+lo) % y:Nat)])∧w'=w:=by
 have hb0:=Lib.bitLenAux_bounds 64 y h2 (by omega)
 have hb:1≤Lib.bitLen y∧2 ^ (Lib.bitLen y - 1)≤y∧y<2 ^ Lib.bitLen y:=hb0;have hl:=Lib.bitLen_le y 64 (by omega) h2
 clear hb0;generalize hbe:Lib.bitLen y=b at *
 obtain ⟨hb1,hb2,hb3⟩:=hb;have hPQ:=pow_split b hl;have hP2:2 ^ (64 - b)*2 ^ (b - 1)=9223372036854775808:=by
  rw [← Nat.pow_add,show 64 - b+(b - 1)=63 by omega]
 have hPe:(2:Int) ^ (64 - b)=((2 ^ (64 - b):Nat):Int):=by rw [Int.natCast_pow];rfl
 have hQe:(2:Int) ^ (64 - (64 - b))=((2 ^ b:Nat):Int):=by rw [show 64 - (64 - b)=b by omega,Int.natCast_pow];rfl
 have hPpos:0<2 ^ (64 - b):=Nat.two_pow_pos _;have hQpos:0<2 ^ b:=Nat.two_pow_pos _;have hor:∀ x z:Nat,z<2 ^ (64 - b)→x*2 ^ (64 - b) ||| z=x*2 ^ (64 - b)+z:=fun x z hz=>by
  rw [Nat.mul_comm,Nat.two_pow_add_eq_or_of_lt hz]
 generalize hPg:2 ^ (64 - b)=P at *
 generalize hQg:2 ^ b=Qp at *
 have hY1:9223372036854775808≤y*P:=by rw [← hP2,Nat.mul_comm y P];exact Nat.mul_le_mul_left P hb2
 have hY2:y*P<18446744073709551616:=by rw [← hPQ,Nat.mul_comm y P];exact Nat.mul_lt_mul_of_pos_left hb3 hPpos
 have hH:hi*P<18446744073709551616:=Nat.lt_of_le_of_lt (Nat.mul_le_mul_right P (Nat.le_of_lt h1)) hY2;have hLq:lo / Qp<P:=by rw [Nat.div_lt_iff_lt_mul hQpos,hPQ];exact h4
 have hLq2:lo / Qp<18446744073709551616:=Nat.lt_of_le_of_lt (Nat.div_le_self _ _) h4;have hsp:=Qhr lo P Qp hPQ;have hu:hi*P+lo / Qp<y*P:=by
  have e1:(hi+1)*P≤y*P:=Nat.mul_le_mul_right P h1;rw [Nat.add_mul] at e1;omega
 have hm:=div64_math hi lo y P Qp hPQ (by omega)
 simp only at hm;have hV:lo*P % 18446744073709551616<18446744073709551616:=Nat.mod_lt _ (by omega)
 obtain ⟨V,hVg⟩:∃ V,V=lo*P % 18446744073709551616:=⟨_,rfl⟩;obtain ⟨u,hug⟩:∃ u,u=hi*P+lo / Qp:=⟨_,rfl⟩;obtain ⟨Y,hYg⟩:∃ Y,Y=y*P:=⟨_,rfl⟩;rw [← hVg] at hV hsp;rw [← hug,← hYg] at hu;rw [← hYg] at hY1 hY2;rw [← hug,← hYg,← hVg] at hm;obtain ⟨v1,hv1⟩:∃ v1,v1=V / 4294967296:=⟨_,rfl⟩;obtain ⟨v0,hv0⟩:∃ v0,v0=V % 4294967296:=⟨_,rfl⟩;obtain ⟨y1,hy1⟩:∃ y1,y1=Y / 4294967296:=⟨_,rfl⟩;obtain ⟨y0,hy0⟩:∃ y0,y0=Y % 4294967296:=⟨_,rfl⟩
 rw [← hv1,← hv0] at hm;have hYd:y1*4294967296+y0=Y:=by rw [hy1,hy0];exact Nat.div_add_mod' Y 4294967296
 have hv1b:v1<4294967296:=by omega
 have hv0b:v0<4294967296:=by omega
 have hY0:0<Y:=by omega
 obtain ⟨Q,hQe2⟩:∃ Q,Q=(u*4294967296+v1) / Y:=⟨_,rfl⟩;obtain ⟨u2,hu2e⟩:∃ u2,u2=(u*4294967296+v1) % Y:=⟨_,rfl⟩;have hu2:u2<Y:=by rw [hu2e];exact Nat.mod_lt _ hY0
 have e1:u*4294967296+v1=Q*Y+u2:=by rw [hQe2,hu2e];exact (Nat.div_add_mod' (u*4294967296+v1) Y).symm
 have hQ:Q<4294967296:=by rw [hQe2];exact quo_lt u v1 Y hu hv1b
 rw [← hQe2,← hu2e] at hm;obtain ⟨Q2,hQ2e⟩:∃ Q2,Q2=(u2*4294967296+v0) / Y:=⟨_,rfl⟩;obtain ⟨R,hRe⟩:∃ R,R=(u2*4294967296+v0) % Y:=⟨_,rfl⟩;have hR:R<Y:=by rw [hRe];exact Nat.mod_lt _ hY0
 have e2:u2*4294967296+v0=Q2*Y+R:=by rw [hQ2e,hRe];exact (Nat.div_add_mod' (u2*4294967296+v0) Y).symm
 have hQ2:Q2<4294967296:=by rw [hQ2e];exact quo_lt u2 v0 Y hu2 hv0b
 rw [← hQ2e,← hRe] at hm;have r1:=wrap_rest u v1 Q Y u2 e1 (by omega)
 have r2:=wrap_rest u2 v0 Q2 Y R e2 (by omega)
 have hy1p:0<y1:=by omega
 have hst1:=div_start u v1 y1 y0 hy1p hv1b;have hst2:=div_start u2 v0 y1 y0 hy1p hv0b;have hmod1:u % y1<y1:=Nat.mod_lt _ hy1p;have hmod2:u2 % y1<y1:=Nat.mod_lt _ hy1p;have hq1:u / y1≤u:=Nat.div_le_self _ _;have hq2:u2 / y1≤u2:=Nat.div_le_self _ _;have eV1:((V:Int) / 4294967296)=(v1:Int):=by rw [hv1];exact divN V
 have eY1:((Y:Int) / 4294967296)=(y1:Int):=by rw [hy1];exact divN Y
 have eV0:bits .and .u64 (V:Int) 4294967295=(v0:Int):=by rw [hv0];exact maskN V hV
 have eY0:bits .and .u64 (Y:Int) 4294967295=(y0:Int):=by rw [hy0];exact maskN Y (by omega)
 have eY:IntKind.u64.wrap ((y:Int)*2 ^ (64 - b))=Y:=by rw [hPe,mulN,← hYg];exact Qgp Y (by omega)
 have eH:IntKind.u64.wrap ((hi:Int)*2 ^ (64 - b))=(hi*P:Nat):=by rw [hPe,mulN];exact Qgp _ hH
 have eL:(lo:Int) / 2 ^ (64 - (64 - b))=(lo / Qp:Nat):=by rw [hQe,← Int.natCast_ediv]
 have eU:bits .or .u64 ((hi*P:Nat):Int) ((lo / Qp:Nat):Int)=(u:Int):=by rw [bits_or_u64_nat _ _ hH hLq2,hor _ _ hLq,← hug]
 have eV:IntKind.u64.wrap ((lo:Int)*2 ^ (64 - b))=V:=by rw [hPe,mulN,wrapM,← hVg]
 have key:=div64_core hi lo y b w (by omega) (by omega) (by omega) (by omega) (by omega) hl hb1 (show Lib.bitLen (y:Int).toNat=b by rw [Int.toNat_natCast];exact hbe)
  Y (hi*P) (lo / Qp) u V y1 y0 v1 v0 (u / y1) (u % y1) u2 (u2 / y1) (u2 % y1) R
  eY eH eL eU eV eY1 eY0 eV1 eV0 (by omega) (by omega) (by omega) (by omega) (by omega) (by omega) (wrap_quo u _ (by omega)) (wrap_rem u _ (by omega))
  (show u<y1*4294967296+y0 by rw [hYd];exact hu) hst1 (by omega) (by omega)
  Q (show Q=(u*4294967296+v1) / (y1*4294967296+y0) by rw [hYd];exact hQe2) (by omega) r1 (by omega) (wrap_quo u2 _ (by omega)) (wrap_rem u2 _ (by omega))
  (show u2<y1*4294967296+y0 by rw [hYd];exact hu2) hst2 (by omega) (by omega)
  Q2 (show Q2=(u2*4294967296+v0) / (y1*4294967296+y0) by rw [hYd];exact hQ2e) (by omega) r2
 refine key.mono ?_;rintro e w' ⟨rfl,hw⟩;refine ⟨?_,hw⟩;rw [← hm.1,← hm.2,hPe,Int.natCast_add,Int.natCast_mul,Int.natCast_ediv];rfl
end
section
open Go.RowKit Go.Lib Math Go.Proofs.Tryz
theorem Qcr (n:Int) (w:World) (h0:0≤n) (h1:n≤1000000000) :
  Calls prog 231 #[.int .i64 n] w fun e w'=>e=.returned (.bool true)∧w'=w:=by
 go_enter func231,ntmps231
 go_wp2;go_ret;exact ⟨rfl,rfl⟩
end
section
open Go.RowKit Math Go.Proofs.Tryz
theorem div64_any (p d:Int) (w:World) (h0:0≤p) (hd:1≤d) (hd2:d<18446744073709551616) (hp:p / 18446744073709551616<d) :
  Calls prog 233 #[.int .u64 (p / 18446744073709551616),.int .u64 (p % 18446744073709551616),.int .u64 d] w fun e w'=>e=.returned (.tuple #[.int .u64 (p / d),.int .u64 (p % d)])∧∃ n,w'=w.drewN n:=by
 obtain ⟨p,rfl⟩:=Int.eq_ofNat_of_zero_le h0;obtain ⟨d,rfl⟩:=Int.eq_ofNat_of_zero_le (by omega:0≤d)
 obtain ⟨hi,hhi⟩:∃ hi,hi=p / 18446744073709551616:=⟨_,rfl⟩;obtain ⟨lo,hlo⟩:∃ lo,lo=p % 18446744073709551616:=⟨_,rfl⟩;have e1:(p:Int) / 18446744073709551616=hi:=by omega
 have e2:(p:Int) % 18446744073709551616=lo:=by omega
 have e3:hi*18446744073709551616+lo=p:=by rw [hhi,hlo];exact Nat.div_add_mod' p 18446744073709551616
 have hlo2:lo<18446744073709551616:=by rw [hlo];exact Nat.mod_lt _ (by omega)
 rw [e1,e2];rw [e1] at hp;rcases Nat.eq_zero_or_pos hi with hz | hpos
 ·have e4:lo=p:=by rw [hz,Nat.zero_mul,Nat.zero_add] at e3;exact e3
  rw [hz,e4];exact div64_small p d w (by omega) (by omega) hd hd2
 ·refine (div64_nat hi lo d w hpos (by omega) (by omega) hlo2).mono ?_
  rintro e w' ⟨rfl,hw⟩;rw [e3,Int.natCast_ediv,Int.natCast_emod];exact ⟨rfl,0,hw⟩
theorem part_ge (m n d:Int):m*n / d≤QbV m n d∧QbV m n d≤m*n / d+1:=by
 have u:=upOf_bd (m*n / d) (m*n % d) d;unfold QbV;omega
def ratV (a n d:Int):Int:=if QbV (Qdy a) n d≤9223372036854775807+(if a<0 then 1 else 0) then ratioV a n d else 0
def ratE (a n d:Int):Value:=if QbV (Qdy a) n d≤9223372036854775807+(if a<0 then 1 else 0) then .nilIface else .iface 66 (.int .i64 10)
set_option maxHeartbeats 1000000 in
theorem ratio_any (a n d:Int) (w:World) (ha:-9223372036854775808≤a) (ha2:a≤9223372036854775807) (hn:0≤n) (hn2:n≤1000000000) (hd:1≤d) (hd2:d≤1000000000) :
  Calls prog 210 #[.int .i64 a,.int .i64 n,.int .i64 d] w fun e w'=>e=.returned (.tuple #[.int .i64 (ratV a n d),ratE a n d])∧∃ n,w'=w.drewN n:=by
 have d0:(d == 0)=false:=by simp;omega
 have m0:=Qg5 a;have m1:Qdy a≤9223372036854775808:=by unfold Qdy;split <;> omega
 have p0:=Int.mul_nonneg m0 hn;have q0:=Int.ediv_nonneg p0 (by omega:(0:Int)≤d)
 have r0:=Int.emod_nonneg (Qdy a*n) (b:=d) (by omega)
 have r1:=Int.emod_lt_of_pos (Qdy a*n) (b:=d) (by omega)
 have pg:=part_ge (Qdy a) n d;have ub:=upOf_bd (Qdy a*n / d) (Qdy a*n % d) d;have z0:0≤Qdy a*n / 18446744073709551616:=by omega
 have z1:0≤Qdy a*n % 18446744073709551616:=by omega
 have z2:Qdy a*n % 18446744073709551616<18446744073709551616:=by omega
 have eq1:Hid (QbV (Qdy a) n d=Qdy a*n / d+upOf (Qdy a*n / d) (Qdy a*n % d) d):=rfl;by_cases hover:d≤Qdy a*n / 18446744073709551616
 ·have big:18446744073709551616≤Qdy a*n / d:=by
   rw [Int.le_ediv_iff_mul_le (by omega)]
   have:=Int.mul_le_mul_of_nonneg_left hover (by omega:(0:Int)≤18446744073709551616)
   omega
  have no:¬ (QbV (Qdy a) n d≤9223372036854775807+(if a<0 then 1 else 0)):=by split <;> omega
  have res:Hid (ratV a n d=0∧ratE a n d=.iface 66 (.int .i64 10)):=by
   unfold Hid ratV ratE;rw [if_neg no,if_neg no];exact ⟨rfl,rfl⟩
  clear no big pg ub q0 r0 r1;go_enter func210,ntmps210
  go_wp2_with fail;refine (Qcr _ _ hn hn2).mono ?_;rintro e w' ⟨rfl,hw⟩;rw [hw];clear hw w';go_wp2_with fail;refine (Qcr _ _ (by omega) hd2).mono ?_
  rintro e w' ⟨rfl,hw⟩;rw [hw];clear hw w';go_wp2_with fail;refine (size_any _ _ (by omega) (by omega)).mono ?_
  rintro e w' ⟨rfl,hw⟩;rw [hw];clear hw w';go_wp2_with fail;refine (QgV _ _ _ (by omega) (by omega) (by omega) (by omega)).mono ?_
  rintro e w' ⟨rfl,hw⟩;rw [hw];clear hw w';go_wp2;go_ret2;refine ⟨?_,0,rfl⟩;rw [res.out.1,res.out.2];rfl
 ·have hlt:Qdy a*n / d<18446744073709551616:=by
   rw [Int.ediv_lt_iff_lt_mul (by omega)]
   have h5:Qdy a*n<(Qdy a*n / 18446744073709551616+1)*18446744073709551616:=by omega
   have h6:=Int.mul_le_mul_of_nonneg_right (by omega:Qdy a*n / 18446744073709551616+1≤d) (by omega:(0:Int)≤18446744073709551616)
   omega
  by_cases ok:QbV (Qdy a) n d≤9223372036854775807+(if a<0 then 1 else 0)
  ·have res:Hid (ratV a n d=ratioV a n d∧ratE a n d=.nilIface):=by
    unfold Hid ratV ratE;rw [if_pos ok,if_pos ok];exact ⟨rfl,rfl⟩
   have Ok:Hid (QbV (Qdy a) n d≤9223372036854775807+(if a<0 then 1 else 0)):=ok
   clear ok pg;go_enter func210,ntmps210
   go_wp2_with fail;refine (Qcr _ _ hn hn2).mono ?_;rintro e w' ⟨rfl,hw⟩;rw [hw];clear hw w';go_wp2_with fail;refine (Qcr _ _ (by omega) hd2).mono ?_
   rintro e w' ⟨rfl,hw⟩;rw [hw];clear hw w';go_wp2_with fail;refine (size_any _ _ (by omega) (by omega)).mono ?_
   rintro e w' ⟨rfl,hw⟩;rw [hw];clear hw w';go_wp2_with fail;refine (QgV _ _ _ (by omega) (by omega) (by omega) (by omega)).mono ?_
   rintro e w' ⟨rfl,hw⟩;rw [hw];clear hw w';go_wp2_with fail;refine (div64_any _ _ _ (by omega) (by omega) (by omega) (by omega)).mono ?_
   rintro e w' ⟨rfl,k,hw⟩;rw [hw];clear hw w';go_wp2_with fail;refine (Qge _ _ _ _ (by omega) (by omega) (by omega) (by omega)).mono ?_
   rintro e w' ⟨rfl,hw⟩;rw [hw];clear hw w';go_wp2_with fail;by_cases h:a<0
   ·rw [decide_eq_true h];have g:=Ok.out;rw [eq1.out,if_pos h] at g;refine (signed_yes _ _ _ (by omega) (by omega) ub.1 ub.2 (by omega)).mono ?_
    rintro e w' ⟨rfl,hw⟩;rw [hw];clear hw w' g;go_wp2;go_ret2;refine ⟨?_,k,rfl⟩;rw [res.out.1,res.out.2];unfold ratioV QbV;rw [if_pos h];rfl
   ·rw [decide_eq_false h];have g:=Ok.out;rw [eq1.out,if_neg h] at g;refine (signed_no _ _ _ (by omega) (by omega) ub.1 ub.2 (by omega)).mono ?_
    rintro e w' ⟨rfl,hw⟩;rw [hw];clear hw w' g;go_wp2;go_ret2;refine ⟨?_,k,rfl⟩;rw [res.out.1,res.out.2];unfold ratioV QbV;rw [if_neg (by omega)];rfl
  ·have res:Hid (ratV a n d=0∧ratE a n d=.iface 66 (.int .i64 10)):=by
    unfold Hid ratV ratE;rw [if_neg ok,if_neg ok];exact ⟨rfl,rfl⟩
   have Ok:Hid (¬ QbV (Qdy a) n d≤9223372036854775807+(if a<0 then 1 else 0)):=ok
   clear ok pg;go_enter func210,ntmps210
   go_wp2_with fail;refine (Qcr _ _ hn hn2).mono ?_;rintro e w' ⟨rfl,hw⟩;rw [hw];clear hw w';go_wp2_with fail;refine (Qcr _ _ (by omega) hd2).mono ?_
   rintro e w' ⟨rfl,hw⟩;rw [hw];clear hw w';go_wp2_with fail;refine (size_any _ _ (by omega) (by omega)).mono ?_
   rintro e w' ⟨rfl,hw⟩;rw [hw];clear hw w';go_wp2_with fail;refine (QgV _ _ _ (by omega) (by omega) (by omega) (by omega)).mono ?_
   rintro e w' ⟨rfl,hw⟩;rw [hw];clear hw w';go_wp2_with fail;refine (div64_any _ _ _ (by omega) (by omega) (by omega) (by omega)).mono ?_
   rintro e w' ⟨rfl,k,hw⟩;rw [hw];clear hw w';go_wp2_with fail;refine (Qge _ _ _ _ (by omega) (by omega) (by omega) (by omega)).mono ?_
   rintro e w' ⟨rfl,hw⟩;rw [hw];clear hw w';go_wp2_with fail;by_cases h:a<0
   ·rw [decide_eq_true h];have g:=Ok.out;rw [eq1.out,if_pos h] at g;refine (QhS _ _ _ (by omega) (by omega) ub.1 ub.2 (by omega)).mono ?_
    rintro e w' ⟨rfl,hw⟩;rw [hw];clear hw w' g;go_wp2;go_ret2;refine ⟨?_,k,rfl⟩;rw [res.out.1,res.out.2];rfl
   ·rw [decide_eq_false h];have g:=Ok.out;rw [eq1.out,if_neg h] at g;refine (Qik _ _ _ (by omega) (by omega) ub.1 ub.2 (by omega)).mono ?_
    rintro e w' ⟨rfl,hw⟩;rw [hw];clear hw w' g;go_wp2;go_ret2;refine ⟨?_,k,rfl⟩;rw [res.out.1,res.out.2];rfl
end
section
open Go.RowKit Math Go.Proofs.Tryz
theorem add64_any (x y:Int) (hx:0≤x) (hy:0≤y) (hx2:x<18446744073709551616) (hy2:y<18446744073709551616) (w:World) :
  (callFunc 152 #[.int .u64 x,.int .u64 y,.int .u64 0]).run prog w =
   .ok (.value (.tuple #[.int .u64 ((x+y) % 18446744073709551616),.int .u64 ((x+y) / 18446744073709551616)])) w:=by
 obtain ⟨x,rfl⟩:=Int.eq_ofNat_of_zero_le hx;obtain ⟨y,rfl⟩:=Int.eq_ofNat_of_zero_le hy;rw [run_callFunc_extern func152 (by kernel_rfl) (by kernel_rfl) (by kernel_rfl) (e:=add64Entry) (by kernel_rfl)]
 have h:=run_add64 (P:=prog) x y 0 (by omega) (by omega) (by omega) (by omega) w
 rw [h];simp only [Result.andThen,Int.add_zero]
theorem add64_w (s x:Int) (w:World):(callFunc 152 #[.int .u64 (loW s),.int .u64 (IntKind.u64.wrap x),.int .u64 0]).run prog w =
   .ok (.value (.tuple #[.int .u64 (loW (s+x)),.int .u64 (cW s x)])) w:=by
 have b1:=loW_bd s;have b2:=loW_bd x;have e:IntKind.u64.wrap x=loW x:=IntKind.wrap_u64 x;rw [e,add64_any _ _ b1.1 b2.1 b1.2 b2.2,loW_add];rfl
theorem take_sum (l:List Int) (k:Nat) (h:k<l.length):(l.take (k+1)).sum=(l.take k).sum+l.getD k 0:=by
 rw [List.take_succ_eq_append_getElem h,List.sum_append];simp [h]
def sumV (s:Int):Int:=if -9223372036854775808≤s∧s≤9223372036854775807 then s else 0
def sumE (s:Int):Value:=if -9223372036854775808≤s∧s≤9223372036854775807 then .nilIface else .iface 66 (.int .i64 10)
theorem sum_bound (l:List Int) (k:Nat) (h:k≤l.length) (hI:∀ i,i<l.length→I64 (l.getD i 0)) :
  -((k:Int)*9223372036854775808)≤(l.take k).sum∧(l.take k).sum≤(k:Int)*9223372036854775808:=by
 induction k with
 | zero=>simp
 | succ k ih=>
  have:=ih (by omega)
  have h2:=hI k (by omega)
  unfold I64 at h2;rw [take_sum l k (by omega)]
  omega
theorem wrap64_lo (s:Int):wrap64 (loW s)=if loW s<9223372036854775808 then loW s else loW s - 18446744073709551616:=by
 have:=loW_bd s
 unfold wrap64;split <;> omega
theorem sum_yes (s:Int) (h:-170141183460469231731687303715884105728≤s∧s<170141183460469231731687303715884105728) (hs:-9223372036854775808≤s∧s≤9223372036854775807) :
  (hiW s != IntKind.u64.wrap (wrap64 (loW s) / 9223372036854775808))=false∧wrap64 (loW s)=s:=by
 have hf:=sum_fits s h _ rfl;rw [← wrap64_lo] at hf;rw [IntKind.wrap_u64];exact ⟨by rw [bne_eq_false_iff_eq];exact hf.1.2 hs,hf.2 hs⟩
theorem sum_no (s:Int) (h:-170141183460469231731687303715884105728≤s∧s<170141183460469231731687303715884105728) (hs:¬ (-9223372036854775808≤s∧s≤9223372036854775807)) :
  (hiW s != IntKind.u64.wrap (wrap64 (loW s) / 9223372036854775808))=true:=by
 have hf:=sum_fits s h _ rfl;rw [← wrap64_lo] at hf;rw [IntKind.wrap_u64,bne_iff_ne];exact fun e=>hs (hf.1.1 e)
theorem sum_run (b off cap n:Nat) (l:List Int) (w:World) (hn:l.length=n) (hlen:l.length≤140737488355328) (hI:Hid (∀ i,i<l.length→I64 (l.getD i 0)))
  (hc:Hid (∀ i,i<l.length→w.cell? ⟨b,off+i,none⟩=some (.int .i64 (l.getD i 0)))) :
  Calls prog 99 #[.slice (some ⟨b,off,none⟩) n cap] w fun e w'=>e=.returned (.tuple #[.int .i64 (sumV l.sum),sumE l.sum])∧w'=w:=by
 subst hn;go_enter func99,ntmps99
 go_wp2;go_loop [4,5,12] (fun hi lo i=>∃ k:Nat,k≤l.length∧i=.int .i64 k∧hi=.int .u64 (hiW (l.take k).sum)∧lo=.int .u64 (loW (l.take k).sum)) (fun _ _ i=>l.length - (RowKit.intOf i).toNat)
 case atStart=>exact ⟨0,Nat.zero_le _,rfl,rfl,rfl⟩
 case round=>
  obtain ⟨k,hk,rfl,rfl,rfl⟩:=hrel;by_cases hlt:k<l.length
  ·have hck:=hc.out k hlt;have hik:=hI.out k hlt;have hts:=take_sum l k hlt;generalize l.getD k 0=x at *
   generalize (l.take k).sum=s at *
   have Hts:Hid ((l.take (k+1)).sum=s+x):=hts;have Hik:Hid (I64 x):=hik;clear hts hik;go_wp2_with (simp only [add64_w]);go_round
   case rel=>
    refine ⟨k+1,by omega,by go_num,?_,?_⟩
    ·rw [Hts.out,IntKind.wrap_u64,IntKind.wrap_u64,IntKind.wrap_u64,← hiW_step s x Hik.out]
    ·rw [Hts.out]
   case measure=>simp [RowKit.intOf];omega
  ·have hk2:k=l.length:=by omega
   subst hk2;have hb:=sum_bound l l.length (Nat.le_refl _) hI.out;rw [List.take_length] at hb ⊢;by_cases hs:-9223372036854775808≤l.sum∧l.sum≤9223372036854775807
   ·obtain ⟨t1,t2⟩:=sum_yes l.sum (by omega) hs
    have T2:Hid (wrap64 (loW l.sum)=l.sum):=t2;have Hs:Hid (-9223372036854775808≤l.sum∧l.sum≤9223372036854775807):=hs;clear t2 hb hI hc hs;go_wp2;go_ret2;refine ⟨?_,rfl⟩;unfold sumV sumE;rw [if_pos Hs.out,if_pos Hs.out];show Ending.returned (.tuple #[.int .i64 (wrap64 (loW l.sum)),.nilIface])=_;rw [T2.out]
   ·have t1:=sum_no l.sum (by omega) hs
    have Hs:Hid (¬ (-9223372036854775808≤l.sum∧l.sum≤9223372036854775807)):=hs;clear hb hI hc hs;go_wp2;go_ret2;refine ⟨?_,rfl⟩;unfold sumV sumE;rw [if_neg Hs.out,if_neg Hs.out];rfl
theorem sum_nil (w:World) :
  Calls prog 99 #[.slice none 0 0] w fun e w'=>e=.returned (.tuple #[.int .i64 0,.nilIface])∧w'=w:=by
 go_enter func99,ntmps99
 go_wp2;refine wp_loop_rounds 1 ?_;rw [rounds_succ];go_wp2;go_ret2;exact ⟨rfl,rfl⟩
theorem sum_own (base n:Nat) (e:TypeId) (v:Value) (l:List Int) (w:World) (hlen:n≤140737488355328) (hI:Hid (∀ i,i<l.length→I64 (l.getD i 0)))
  (hown:Hid (w.ownsRow base e 1 v n (l.map (Value.int .i64)))) :
  Calls prog 99 #[v] w fun e w'=>e=.returned (.tuple #[.int .i64 (sumV l.sum),sumE l.sum])∧w'=w:=by
 obtain ⟨hl,⟨rfl,hn⟩ | ⟨g,cap,cur,rfl,hg⟩⟩:=hown.out
 ·have:l=[]:=by
   subst hn;simpa using hl
  subst this;exact sum_nil w
 ·have hn:l.length=n:=by simpa using hl
  refine sum_run g 0 cap n l w hn (by omega) hI ?_
  intro i hi
  have:=hown.out.cells (g:=g) rfl i (.int .i64 (l.getD i 0)) (by simp [hi])
  rcases Nat.eq_zero_or_pos i with rfl | hp
  ·simpa [Addr.add] using this
  ·simpa [Addr.add,Nat.ne_of_gt hp] using this
theorem sum_fit (s:Int) (h:-9223372036854775808≤s∧s≤9223372036854775807):sumV s=s∧sumE s=.nilIface:=by
 unfold sumV sumE;rw [if_pos h,if_pos h];exact ⟨rfl,rfl⟩
theorem QhU (s:Int) (h:¬ (-9223372036854775808≤s∧s≤9223372036854775807)):sumV s=0∧sumE s=.iface 66 (.int .i64 10):=by
 unfold sumV sumE;rw [if_neg h,if_neg h];exact ⟨rfl,rfl⟩
theorem moneyAdd_any (x y:Int) (w:World) (hx:I64 x) (hy:I64 y) :
  Calls prog 176 #[.int .i64 x,.int .i64 y] w fun e w'=>e=.returned (.tuple #[.int .i64 (sumV (x+y)),sumE (x+y)])∧∃ c,w'=w.alloc c:=by
 have hI:Hid (∀ i,i<[x,y].length→I64 ([x,y].getD i 0)):=by
  intro i hi
  match i,hi with
  | 0,_=>exact hx
  | 1,_=>exact hy
 have hs:[x,y].sum=x+y:=by simp
 have Hs:Hid ([x,y].sum=x+y):=hs;clear hs;go_enter func176,ntmps176
 go_wp2_with fail;refine (sum_run w.heap.size 0 2 2 [x,y] _ rfl (by simp) hI ?_).mono ?_
 ·intro i hi
  match i,hi with
  | 0,_=>simp
  | 1,_=>simp
 ·rintro e w' ⟨rfl,hw⟩;rw [hw,Hs.out];clear hw w';go_wp2;go_ret2;exact ⟨rfl,_,rfl⟩
end
section
open Go.RowKit Go.Lib Go.Proofs.Tryz
end
section
open Go.RowKit Go.Lib Go.Proofs.Tryz
end
end Go.Proofs.YtjifbbdkpanagaaGreatDoor
