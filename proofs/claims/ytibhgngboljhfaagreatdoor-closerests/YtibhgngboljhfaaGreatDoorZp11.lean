/-
  Part of a proof (see the last text).
-/
import Derived.Test.YtibhgngboljhfaaGreatDoorZp10
set_option linter.unusedVariables false
set_option linter.unusedSimpArgs false
set_option maxRecDepth 100000
namespace Go.Proofs.YtibhgngboljhfaaGreatDoor
section
open Go.RowKit Math Go.Proofs.Tryz
theorem wrap_rest (u v Q Y R:Nat) (h:u*4294967296+v=Q*Y+R) (hR:R<18446744073709551616) :
  IntKind.u64.wrap (IntKind.u64.wrap (IntKind.u64.wrap ((u:Int)*4294967296)+v) - IntKind.u64.wrap ((Q:Int)*Y))=R:=by
 have e:(u:Int)*4294967296+v=(Q:Int)*Y+R:=by
  have:=congrArg (Nat.cast:Nat→Int) h
  rw [Int.natCast_add,Int.natCast_mul,Int.natCast_add,Int.natCast_mul] at this;exact this
 rw [IntKind.wrap_u64,IntKind.wrap_u64,IntKind.wrap_u64,IntKind.wrap_u64];generalize (Q:Int)*Y=t at *
 omega
theorem wrap_quo (u y1:Nat) (hu:u<18446744073709551616):IntKind.u64.wrap ((u:Int) / y1)=(u / y1:Nat):=by
 rw [← Int.natCast_ediv];exact QgD _ (Nat.lt_of_le_of_lt (Nat.div_le_self _ _) hu)
theorem wrap_rem (u y1:Nat) (hu:u<18446744073709551616):IntKind.u64.wrap (u - IntKind.u64.wrap ((u / y1:Nat)*y1))=(u % y1:Nat):=by
 have e:=Nat.div_add_mod' u y1;rw [mulN];generalize u / y1*y1=t at *
 generalize u % y1=r at *
 rw [QgD t (by omega),IntKind.wrap_u64]
 omega
theorem pow_split (b:Nat) (h:b≤64):2 ^ (64 - b)*2 ^ b=18446744073709551616:=by
 rw [← Nat.pow_add,Nat.sub_add_cancel h]
theorem div64_nat (hi lo y:Nat) (w:World) (h0:1≤hi) (h1:hi<y) (h2:y<18446744073709551616) (h4:lo<18446744073709551616) :
  Calls prog 208 #[.int .u64 hi,.int .u64 lo,.int .u64 y] w fun e w'=>e=.returned (.tuple #[.int .u64 ((hi*18446744073709551616+lo) / y:Nat),.int .u64 ((hi*18446744073709551616+lo) % y:Nat)])∧w'=w:=by
 have hb0:=Lib.bitLenAux_bounds 64 y h2 (by omega)
 have hb:1≤Lib.bitLen y∧2 ^ (Lib.bitLen y - 1)≤y∧y<2 ^ Lib.bitLen y:=hb0;have hl:=Lib.bitLen_le y 64 (by omega) h2
 clear hb0;generalize hbe:Lib.bitLen y=b at *
 obtain ⟨hb1,hb2,hb3⟩:=hb;have hPQ:=pow_split b hl;have hP2:2 ^ (64 - b)*2 ^ (b - 1)=9223372036854775808:=by
  rw [← Nat.pow_add,show 64 - b+(b - 1)=63 by omega]
 have hPe:(2:Int) ^ (64 - b)=((2 ^ (64 - b):Nat):Int):=by rw [Int.natCast_pow];rfl
 have hQe:(2:Int) ^ (64 - (64 - b))=((2 ^ b:Nat):Int):=by rw [show 64 - (64 - b)=b by omega,Int.natCast_pow];rfl
 have hPpos:0<2 ^ (64 - b):=Nat.two_pow_pos _;have hQpos:0<2 ^ b:=Nat.two_pow_pos _;have hor:∀ x z:Nat,z<2 ^ (64 - b)→x*2 ^ (64 - b) ||| z=x*2 ^ (64 - b)+z:=fun x z hz=>by
  rw [Nat.mul_comm,Nat.two_pow_add_eq_or_of_lt hz]
 generalize hPg:2 ^ (64 - b)=P at *
 generalize hQg:2 ^ b=Qp at *
 have hY1:9223372036854775808≤y*P:=by rw [← hP2,Nat.mul_comm y P];exact Nat.mul_le_mul_left P hb2
 have hY2:y*P<18446744073709551616:=by rw [← hPQ,Nat.mul_comm y P];exact Nat.mul_lt_mul_of_pos_left hb3 hPpos
 have hH:hi*P<18446744073709551616:=Nat.lt_of_le_of_lt (Nat.mul_le_mul_right P (Nat.le_of_lt h1)) hY2;have hLq:lo / Qp<P:=by rw [Nat.div_lt_iff_lt_mul hQpos,hPQ];exact h4
 have hLq2:lo / Qp<18446744073709551616:=Nat.lt_of_le_of_lt (Nat.div_le_self _ _) h4;have hsp:=Qik lo P Qp hPQ;have hu:hi*P+lo / Qp<y*P:=by
  have e1:(hi+1)*P≤y*P:=Nat.mul_le_mul_right P h1;rw [Nat.add_mul] at e1;omega
 have hm:=div64_math hi lo y P Qp hPQ (by omega)
 simp only at hm;have hV:lo*P % 18446744073709551616<18446744073709551616:=Nat.mod_lt _ (by omega)
 obtain ⟨V,hVg⟩:∃ V,V=lo*P % 18446744073709551616:=⟨_,rfl⟩;obtain ⟨u,hug⟩:∃ u,u=hi*P+lo / Qp:=⟨_,rfl⟩;obtain ⟨Y,hYg⟩:∃ Y,Y=y*P:=⟨_,rfl⟩;rw [← hVg] at hV hsp;rw [← hug,← hYg] at hu;rw [← hYg] at hY1 hY2;rw [← hug,← hYg,← hVg] at hm;obtain ⟨v1,hv1⟩:∃ v1,v1=V / 4294967296:=⟨_,rfl⟩;obtain ⟨v0,hv0⟩:∃ v0,v0=V % 4294967296:=⟨_,rfl⟩;obtain ⟨y1,hy1⟩:∃ y1,y1=Y / 4294967296:=⟨_,rfl⟩;obtain ⟨y0,hy0⟩:∃ y0,y0=Y % 4294967296:=⟨_,rfl⟩
 rw [← hv1,← hv0] at hm;have hYd:y1*4294967296+y0=Y:=by rw [hy1,hy0];exact Nat.div_add_mod' Y 4294967296
 have hv1b:v1<4294967296:=by omega
 have hv0b:v0<4294967296:=by omega
 have hY0:0<Y:=by omega
 obtain ⟨Q,hQe2⟩:∃ Q,Q=(u*4294967296+v1) / Y:=⟨_,rfl⟩;obtain ⟨u2,hu2e⟩:∃ u2,u2=(u*4294967296+v1) % Y:=⟨_,rfl⟩;have hu2:u2<Y:=by rw [hu2e];exact Nat.mod_lt _ hY0
 have e1:u*4294967296+v1=Q*Y+u2:=by rw [hQe2,hu2e];exact (Nat.div_add_mod' (u*4294967296+v1) Y).symm
 have hQ:Q<4294967296:=by rw [hQe2];exact quo_lt u v1 Y hu hv1b
 rw [← hQe2,← hu2e] at hm;obtain ⟨Q2,hQ2e⟩:∃ Q2,Q2=(u2*4294967296+v0) / Y:=⟨_,rfl⟩;obtain ⟨R,hRe⟩:∃ R,R=(u2*4294967296+v0) % Y:=⟨_,rfl⟩;have hR:R<Y:=by rw [hRe];exact Nat.mod_lt _ hY0
 have e2:u2*4294967296+v0=Q2*Y+R:=by rw [hQ2e,hRe];exact (Nat.div_add_mod' (u2*4294967296+v0) Y).symm
 have hQ2:Q2<4294967296:=by rw [hQ2e];exact quo_lt u2 v0 Y hu2 hv0b
 rw [← hQ2e,← hRe] at hm;have r1:=wrap_rest u v1 Q Y u2 e1 (by omega)
 have r2:=wrap_rest u2 v0 Q2 Y R e2 (by omega)
 have hy1p:0<y1:=by omega
 have hst1:=div_start u v1 y1 y0 hy1p hv1b;have hst2:=div_start u2 v0 y1 y0 hy1p hv0b;have hmod1:u % y1<y1:=Nat.mod_lt _ hy1p;have hmod2:u2 % y1<y1:=Nat.mod_lt _ hy1p;have hq1:u / y1≤u:=Nat.div_le_self _ _;have hq2:u2 / y1≤u2:=Nat.div_le_self _ _;have eV1:((V:Int) / 4294967296)=(v1:Int):=by rw [hv1];exact divN V
 have eY1:((Y:Int) / 4294967296)=(y1:Int):=by rw [hy1];exact divN Y
 have eV0:bits .and .u64 (V:Int) 4294967295=(v0:Int):=by rw [hv0];exact maskN V hV
 have eY0:bits .and .u64 (Y:Int) 4294967295=(y0:Int):=by rw [hy0];exact maskN Y (by omega)
 have eY:IntKind.u64.wrap ((y:Int)*2 ^ (64 - b))=Y:=by rw [hPe,mulN,← hYg];exact QgD Y (by omega)
 have eH:IntKind.u64.wrap ((hi:Int)*2 ^ (64 - b))=(hi*P:Nat):=by rw [hPe,mulN];exact QgD _ hH
 have eL:(lo:Int) / 2 ^ (64 - (64 - b))=(lo / Qp:Nat):=by rw [hQe,← Int.natCast_ediv]
 have eU:bits .or .u64 ((hi*P:Nat):Int) ((lo / Qp:Nat):Int)=(u:Int):=by rw [bits_or_u64_nat _ _ hH hLq2,hor _ _ hLq,← hug]
 have eV:IntKind.u64.wrap ((lo:Int)*2 ^ (64 - b))=V:=by rw [hPe,mulN,wrapM,← hVg]
 have key:=div64_core hi lo y b w (by omega) (by omega) (by omega) (by omega) (by omega) hl hb1 (show Lib.bitLen (y:Int).toNat=b by rw [Int.toNat_natCast];exact hbe)
  Y (hi*P) (lo / Qp) u V y1 y0 v1 v0 (u / y1) (u % y1) u2 (u2 / y1) (u2 % y1) R
  eY eH eL eU eV eY1 eY0 eV1 eV0 (by omega) (by omega) (by omega) (by omega) (by omega) (by omega) (wrap_quo u _ (by omega)) (wrap_rem u _ (by omega))
  (show u<y1*4294967296+y0 by rw [hYd];exact hu) hst1 (by omega) (by omega)
  Q (show Q=(u*4294967296+v1) / (y1*4294967296+y0) by rw [hYd];exact hQe2) (by omega) r1 (by omega) (wrap_quo u2 _ (by omega)) (wrap_rem u2 _ (by omega))
  (show u2<y1*4294967296+y0 by rw [hYd];exact hu2) hst2 (by omega) (by omega)
  Q2 (show Q2=(u2*4294967296+v0) / (y1*4294967296+y0) by rw [hYd];exact hQ2e) (by omega) r2
 refine key.mono ?_;rintro e w' ⟨rfl,hw⟩;refine ⟨?_,hw⟩;rw [← hm.1,← hm.2,hPe,Int.natCast_add,Int.natCast_mul,Int.natCast_ediv];rfl
end
section
open Go.RowKit Go.Lib Math Go.Proofs.Tryz
theorem Qce (n:Int) (w:World) (h0:0≤n) (h1:n≤1000000000) :
  Calls prog 206 #[.int .i64 n] w fun e w'=>e=.returned (.bool true)∧w'=w:=by
 go_enter func206,ntmps206
 go_wp2;go_ret;exact ⟨rfl,rfl⟩
theorem isPart_no (n:Int) (w:World) (h:n<0∨1000000000<n) :
  Calls prog 206 #[.int .i64 n] w fun e w'=>e=.returned (.bool false)∧w'=w:=by
 rcases h with h | h
 ·go_enter func206,ntmps206
  go_wp2;go_ret;exact ⟨rfl,rfl⟩
 ·have h':¬ n<0:=by omega
  go_enter func206,ntmps206
  go_wp2;go_ret;refine ⟨?_,rfl⟩;simp;omega
end
section
open Go.RowKit Math Go.Proofs.Tryz
theorem Qhf (p d:Int) (w:World) (h0:0≤p) (hd:1≤d) (hd2:d<18446744073709551616) (hp:p / 18446744073709551616<d) :
  Calls prog 208 #[.int .u64 (p / 18446744073709551616),.int .u64 (p % 18446744073709551616),.int .u64 d] w fun e w'=>e=.returned (.tuple #[.int .u64 (p / d),.int .u64 (p % d)])∧∃ n,w'=w.drewN n:=by
 obtain ⟨p,rfl⟩:=Int.eq_ofNat_of_zero_le h0;obtain ⟨d,rfl⟩:=Int.eq_ofNat_of_zero_le (by omega:0≤d)
 obtain ⟨hi,hhi⟩:∃ hi,hi=p / 18446744073709551616:=⟨_,rfl⟩;obtain ⟨lo,hlo⟩:∃ lo,lo=p % 18446744073709551616:=⟨_,rfl⟩;have e1:(p:Int) / 18446744073709551616=hi:=by omega
 have e2:(p:Int) % 18446744073709551616=lo:=by omega
 have e3:hi*18446744073709551616+lo=p:=by rw [hhi,hlo];exact Nat.div_add_mod' p 18446744073709551616
 have hlo2:lo<18446744073709551616:=by rw [hlo];exact Nat.mod_lt _ (by omega)
 rw [e1,e2];rw [e1] at hp;rcases Nat.eq_zero_or_pos hi with hz | hpos
 ·have e4:lo=p:=by rw [hz,Nat.zero_mul,Nat.zero_add] at e3;exact e3
  rw [hz,e4];exact div64_small p d w (by omega) (by omega) hd hd2
 ·refine (div64_nat hi lo d w hpos (by omega) (by omega) hlo2).mono ?_
  rintro e w' ⟨rfl,hw⟩;rw [e3,Int.natCast_ediv,Int.natCast_emod];exact ⟨rfl,0,hw⟩
theorem part_ge (m n d:Int):m*n / d≤Qb6 m n d∧Qb6 m n d≤m*n / d+1:=by
 have u:=upOf_bd (m*n / d) (m*n % d) d;unfold Qb6;omega
def ratV (a n d:Int):Int:=if Qb6 (QdC a) n d≤9223372036854775807+(if a<0 then 1 else 0) then ratioV a n d else 0
def ratE (a n d:Int):Value:=if Qb6 (QdC a) n d≤9223372036854775807+(if a<0 then 1 else 0) then .nilIface else .iface 68 (.int .i64 10)
set_option maxHeartbeats 1000000 in
theorem ratio_any (a n d:Int) (w:World) (ha:-9223372036854775808≤a) (ha2:a≤9223372036854775807) (hn:0≤n) (hn2:n≤1000000000) (hd:1≤d) (hd2:d≤1000000000) :
  Calls prog 194 #[.int .i64 a,.int .i64 n,.int .i64 d] w fun e w'=>e=.returned (.tuple #[.int .i64 (ratV a n d),ratE a n d])∧∃ n,w'=w.drewN n:=by
 have d0:(d == 0)=false:=by simp;omega
 have m0:=Qiq a;have m1:QdC a≤9223372036854775808:=by unfold QdC;split <;> omega
 have p0:=Int.mul_nonneg m0 hn;have q0:=Int.ediv_nonneg p0 (by omega:(0:Int)≤d)
 have r0:=Int.emod_nonneg (QdC a*n) (b:=d) (by omega)
 have r1:=Int.emod_lt_of_pos (QdC a*n) (b:=d) (by omega)
 have pg:=part_ge (QdC a) n d;have ub:=upOf_bd (QdC a*n / d) (QdC a*n % d) d;have z0:0≤QdC a*n / 18446744073709551616:=by omega
 have z1:0≤QdC a*n % 18446744073709551616:=by omega
 have z2:QdC a*n % 18446744073709551616<18446744073709551616:=by omega
 have eq1:Hid (Qb6 (QdC a) n d=QdC a*n / d+upOf (QdC a*n / d) (QdC a*n % d) d):=rfl;by_cases hover:d≤QdC a*n / 18446744073709551616
 ·have big:18446744073709551616≤QdC a*n / d:=by
   rw [Int.le_ediv_iff_mul_le (by omega)]
   have:=Int.mul_le_mul_of_nonneg_left hover (by omega:(0:Int)≤18446744073709551616)
   omega
  have no:¬ (Qb6 (QdC a) n d≤9223372036854775807+(if a<0 then 1 else 0)):=by split <;> omega
  have res:Hid (ratV a n d=0∧ratE a n d=.iface 68 (.int .i64 10)):=by
   unfold Hid ratV ratE;rw [if_neg no,if_neg no];exact ⟨rfl,rfl⟩
  clear no big pg ub q0 r0 r1;go_enter func194,ntmps194
  go_wp2_with fail;refine (Qce _ _ hn hn2).mono ?_;rintro e w' ⟨rfl,hw⟩;rw [hw];clear hw w';go_wp2_with fail;refine (Qce _ _ (by omega) hd2).mono ?_
  rintro e w' ⟨rfl,hw⟩;rw [hw];clear hw w';go_wp2_with fail;refine (QgQ _ _ (by omega) (by omega)).mono ?_
  rintro e w' ⟨rfl,hw⟩;rw [hw];clear hw w';go_wp2_with fail;refine (Qfi _ _ _ (by omega) (by omega) (by omega) (by omega)).mono ?_
  rintro e w' ⟨rfl,hw⟩;rw [hw];clear hw w';go_wp2;go_ret2;refine ⟨?_,0,rfl⟩;rw [res.out.1,res.out.2];rfl
 ·have hlt:QdC a*n / d<18446744073709551616:=by
   rw [Int.ediv_lt_iff_lt_mul (by omega)]
   have h5:QdC a*n<(QdC a*n / 18446744073709551616+1)*18446744073709551616:=by omega
   have h6:=Int.mul_le_mul_of_nonneg_right (by omega:QdC a*n / 18446744073709551616+1≤d) (by omega:(0:Int)≤18446744073709551616)
   omega
  by_cases ok:Qb6 (QdC a) n d≤9223372036854775807+(if a<0 then 1 else 0)
  ·have res:Hid (ratV a n d=ratioV a n d∧ratE a n d=.nilIface):=by
    unfold Hid ratV ratE;rw [if_pos ok,if_pos ok];exact ⟨rfl,rfl⟩
   have Ok:Hid (Qb6 (QdC a) n d≤9223372036854775807+(if a<0 then 1 else 0)):=ok
   clear ok pg;go_enter func194,ntmps194
   go_wp2_with fail;refine (Qce _ _ hn hn2).mono ?_;rintro e w' ⟨rfl,hw⟩;rw [hw];clear hw w';go_wp2_with fail;refine (Qce _ _ (by omega) hd2).mono ?_
   rintro e w' ⟨rfl,hw⟩;rw [hw];clear hw w';go_wp2_with fail;refine (QgQ _ _ (by omega) (by omega)).mono ?_
   rintro e w' ⟨rfl,hw⟩;rw [hw];clear hw w';go_wp2_with fail;refine (Qfi _ _ _ (by omega) (by omega) (by omega) (by omega)).mono ?_
   rintro e w' ⟨rfl,hw⟩;rw [hw];clear hw w';go_wp2_with fail;refine (Qhf _ _ _ (by omega) (by omega) (by omega) (by omega)).mono ?_
   rintro e w' ⟨rfl,k,hw⟩;rw [hw];clear hw w';go_wp2_with fail;refine (Qgo _ _ _ _ (by omega) (by omega) (by omega) (by omega)).mono ?_
   rintro e w' ⟨rfl,hw⟩;rw [hw];clear hw w';go_wp2_with fail;by_cases h:a<0
   ·rw [decide_eq_true h];have g:=Ok.out;rw [eq1.out,if_pos h] at g;refine (signed_yes _ _ _ (by omega) (by omega) ub.1 ub.2 (by omega)).mono ?_
    rintro e w' ⟨rfl,hw⟩;rw [hw];clear hw w' g;go_wp2;go_ret2;refine ⟨?_,k,rfl⟩;rw [res.out.1,res.out.2];unfold ratioV Qb6;rw [if_pos h];rfl
   ·rw [decide_eq_false h];have g:=Ok.out;rw [eq1.out,if_neg h] at g;refine (signed_no _ _ _ (by omega) (by omega) ub.1 ub.2 (by omega)).mono ?_
    rintro e w' ⟨rfl,hw⟩;rw [hw];clear hw w' g;go_wp2;go_ret2;refine ⟨?_,k,rfl⟩;rw [res.out.1,res.out.2];unfold ratioV Qb6;rw [if_neg (by omega)];rfl
  ·have res:Hid (ratV a n d=0∧ratE a n d=.iface 68 (.int .i64 10)):=by
    unfold Hid ratV ratE;rw [if_neg ok,if_neg ok];exact ⟨rfl,rfl⟩
   have Ok:Hid (¬ Qb6 (QdC a) n d≤9223372036854775807+(if a<0 then 1 else 0)):=ok
   clear ok pg;go_enter func194,ntmps194
   go_wp2_with fail;refine (Qce _ _ hn hn2).mono ?_;rintro e w' ⟨rfl,hw⟩;rw [hw];clear hw w';go_wp2_with fail;refine (Qce _ _ (by omega) hd2).mono ?_
   rintro e w' ⟨rfl,hw⟩;rw [hw];clear hw w';go_wp2_with fail;refine (QgQ _ _ (by omega) (by omega)).mono ?_
   rintro e w' ⟨rfl,hw⟩;rw [hw];clear hw w';go_wp2_with fail;refine (Qfi _ _ _ (by omega) (by omega) (by omega) (by omega)).mono ?_
   rintro e w' ⟨rfl,hw⟩;rw [hw];clear hw w';go_wp2_with fail;refine (Qhf _ _ _ (by omega) (by omega) (by omega) (by omega)).mono ?_
   rintro e w' ⟨rfl,k,hw⟩;rw [hw];clear hw w';go_wp2_with fail;refine (Qgo _ _ _ _ (by omega) (by omega) (by omega) (by omega)).mono ?_
   rintro e w' ⟨rfl,hw⟩;rw [hw];clear hw w';go_wp2_with fail;by_cases h:a<0
   ·rw [decide_eq_true h];have g:=Ok.out;rw [eq1.out,if_pos h] at g;refine (QhO _ _ _ (by omega) (by omega) ub.1 ub.2 (by omega)).mono ?_
    rintro e w' ⟨rfl,hw⟩;rw [hw];clear hw w' g;go_wp2;go_ret2;refine ⟨?_,k,rfl⟩;rw [res.out.1,res.out.2];rfl
   ·rw [decide_eq_false h];have g:=Ok.out;rw [eq1.out,if_neg h] at g;refine (QiA _ _ _ (by omega) (by omega) ub.1 ub.2 (by omega)).mono ?_
    rintro e w' ⟨rfl,hw⟩;rw [hw];clear hw w' g;go_wp2;go_ret2;refine ⟨?_,k,rfl⟩;rw [res.out.1,res.out.2];rfl
end
section
open Go.RowKit Math Go.Proofs.Tryz
theorem add64_any (x y:Int) (hx:0≤x) (hy:0≤y) (hx2:x<18446744073709551616) (hy2:y<18446744073709551616) (w:World) :
  (callFunc 182 #[.int .u64 x,.int .u64 y,.int .u64 0]).run prog w =
   .ok (.value (.tuple #[.int .u64 ((x+y) % 18446744073709551616),.int .u64 ((x+y) / 18446744073709551616)])) w:=by
 obtain ⟨x,rfl⟩:=Int.eq_ofNat_of_zero_le hx;obtain ⟨y,rfl⟩:=Int.eq_ofNat_of_zero_le hy;rw [run_callFunc_extern func182 (by kernel_rfl) (by kernel_rfl) (by kernel_rfl) (e:=add64Entry) (by kernel_rfl)]
 have h:=run_add64 (P:=prog) x y 0 (by omega) (by omega) (by omega) (by omega) w
 rw [h];simp only [Result.andThen,Int.add_zero]
theorem add64_w (s x:Int) (w:World):(callFunc 182 #[.int .u64 (loW s),.int .u64 (IntKind.u64.wrap x),.int .u64 0]).run prog w =
   .ok (.value (.tuple #[.int .u64 (loW (s+x)),.int .u64 (cW s x)])) w:=by
 have b1:=loW_bd s;have b2:=loW_bd x;have e:IntKind.u64.wrap x=loW x:=IntKind.wrap_u64 x;rw [e,add64_any _ _ b1.1 b2.1 b1.2 b2.2,loW_add];rfl
theorem take_sum (l:List Int) (k:Nat) (h:k<l.length):(l.take (k+1)).sum=(l.take k).sum+l.getD k 0:=by
 rw [List.take_succ_eq_append_getElem h,List.sum_append];simp [h]
def sumV (s:Int):Int:=if -9223372036854775808≤s∧s≤9223372036854775807 then s else 0
def sumE (s:Int):Value:=if -9223372036854775808≤s∧s≤9223372036854775807 then .nilIface else .iface 68 (.int .i64 10)
theorem sum_bound (l:List Int) (k:Nat) (h:k≤l.length) (hI:∀ i,i<l.length→I64 (l.getD i 0)) :
  -((k:Int)*9223372036854775808)≤(l.take k).sum∧(l.take k).sum≤(k:Int)*9223372036854775808:=by
 induction k with
 | zero=>simp
 | succ k ih=>
  have:=ih (by omega)
  have h2:=hI k (by omega)
  unfold I64 at h2;rw [take_sum l k (by omega)]
  omega
theorem wrap64_lo (s:Int):wrap64 (loW s)=if loW s<9223372036854775808 then loW s else loW s - 18446744073709551616:=by
 have:=loW_bd s
 unfold wrap64;split <;> omega
theorem sum_yes (s:Int) (h:-170141183460469231731687303715884105728≤s∧s<170141183460469231731687303715884105728) (hs:-9223372036854775808≤s∧s≤9223372036854775807) :
  (hiW s != IntKind.u64.wrap (wrap64 (loW s) / 9223372036854775808))=false∧wrap64 (loW s)=s:=by
 have hf:=sum_fits s h _ rfl;rw [← wrap64_lo] at hf;rw [IntKind.wrap_u64];exact ⟨by rw [bne_eq_false_iff_eq];exact hf.1.2 hs,hf.2 hs⟩
theorem sum_no (s:Int) (h:-170141183460469231731687303715884105728≤s∧s<170141183460469231731687303715884105728) (hs:¬ (-9223372036854775808≤s∧s≤9223372036854775807)) :
  (hiW s != IntKind.u64.wrap (wrap64 (loW s) / 9223372036854775808))=true:=by
 have hf:=sum_fits s h _ rfl;rw [← wrap64_lo] at hf;rw [IntKind.wrap_u64,bne_iff_ne];exact fun e=>hs (hf.1.1 e)
theorem sum_run (b off cap n:Nat) (l:List Int) (w:World) (hn:l.length=n) (hlen:l.length≤140737488355328) (hI:Hid (∀ i,i<l.length→I64 (l.getD i 0)))
  (hc:Hid (∀ i,i<l.length→w.cell? ⟨b,off+i,none⟩=some (.int .i64 (l.getD i 0)))) :
  Calls prog 142 #[.slice (some ⟨b,off,none⟩) n cap] w fun e w'=>e=.returned (.tuple #[.int .i64 (sumV l.sum),sumE l.sum])∧w'=w:=by
 subst hn;go_enter func142,ntmps142
 go_wp2;go_loop [4,5,12] (fun hi lo i=>∃ k:Nat,k≤l.length∧i=.int .i64 k∧hi=.int .u64 (hiW (l.take k).sum)∧lo=.int .u64 (loW (l.take k).sum)) (fun _ _ i=>l.length - (RowKit.intOf i).toNat)
 case atStart=>exact ⟨0,Nat.zero_le _,rfl,rfl,rfl⟩
 case round=>
  obtain ⟨k,hk,rfl,rfl,rfl⟩:=hrel;by_cases hlt:k<l.length
  ·have hck:=hc.out k hlt;have hik:=hI.out k hlt;have hts:=take_sum l k hlt;generalize l.getD k 0=x at *
   generalize (l.take k).sum=s at *
   have Hts:Hid ((l.take (k+1)).sum=s+x):=hts;have Hik:Hid (I64 x):=hik;clear hts hik;go_wp2_with (simp only [add64_w]);go_round
   case rel=>
    refine ⟨k+1,by omega,by go_num,?_,?_⟩
    ·rw [Hts.out,IntKind.wrap_u64,IntKind.wrap_u64,IntKind.wrap_u64,← hiW_step s x Hik.out]
    ·rw [Hts.out]
   case measure=>simp [RowKit.intOf];omega
  ·have hk2:k=l.length:=by omega
   subst hk2;have hb:=sum_bound l l.length (Nat.le_refl _) hI.out;rw [List.take_length] at hb ⊢;by_cases hs:-9223372036854775808≤l.sum∧l.sum≤9223372036854775807
   ·obtain ⟨t1,t2⟩:=sum_yes l.sum (by omega) hs
    have T2:Hid (wrap64 (loW l.sum)=l.sum):=t2;have Hs:Hid (-9223372036854775808≤l.sum∧l.sum≤9223372036854775807):=hs;clear t2 hb hI hc hs;go_wp2;go_ret2;refine ⟨?_,rfl⟩;unfold sumV sumE;rw [if_pos Hs.out,if_pos Hs.out];show Ending.returned (.tuple #[.int .i64 (wrap64 (loW l.sum)),.nilIface])=_;rw [T2.out]
   ·have t1:=sum_no l.sum (by omega) hs
    have Hs:Hid (¬ (-9223372036854775808≤l.sum∧l.sum≤9223372036854775807)):=hs;clear hb hI hc hs;go_wp2;go_ret2;refine ⟨?_,rfl⟩;unfold sumV sumE;rw [if_neg Hs.out,if_neg Hs.out];rfl
theorem sum_nil (w:World) :
  Calls prog 142 #[.slice none 0 0] w fun e w'=>e=.returned (.tuple #[.int .i64 0,.nilIface])∧w'=w:=by
 go_enter func142,ntmps142
 go_wp2;refine wp_loop_rounds 1 ?_;rw [rounds_succ];go_wp2;go_ret2;exact ⟨rfl,rfl⟩
theorem sum_own (base n:Nat) (e:TypeId) (v:Value) (l:List Int) (w:World) (hlen:n≤140737488355328) (hI:Hid (∀ i,i<l.length→I64 (l.getD i 0)))
  (hown:Hid (w.ownsRow base e 1 v n (l.map (Value.int .i64)))) :
  Calls prog 142 #[v] w fun e w'=>e=.returned (.tuple #[.int .i64 (sumV l.sum),sumE l.sum])∧w'=w:=by
 obtain ⟨hl,⟨rfl,hn⟩ | ⟨g,cap,cur,rfl,hg⟩⟩:=hown.out
 ·have:l=[]:=by
   subst hn;simpa using hl
  subst this;exact sum_nil w
 ·have hn:l.length=n:=by simpa using hl
  refine sum_run g 0 cap n l w hn (by omega) hI ?_
  intro i hi
  have:=hown.out.cells (g:=g) rfl i (.int .i64 (l.getD i 0)) (by simp [hi])
  rcases Nat.eq_zero_or_pos i with rfl | hp
  ·simpa [Addr.add] using this
  ·simpa [Addr.add,Nat.ne_of_gt hp] using this
theorem sum_fit (s:Int) (h:-9223372036854775808≤s∧s≤9223372036854775807):sumV s=s∧sumE s=.nilIface:=by
 unfold sumV sumE;rw [if_pos h,if_pos h];exact ⟨rfl,rfl⟩
theorem Qii (s:Int) (h:¬ (-9223372036854775808≤s∧s≤9223372036854775807)):sumV s=0∧sumE s=.iface 68 (.int .i64 10):=by
 unfold sumV sumE;rw [if_neg h,if_neg h];exact ⟨rfl,rfl⟩
theorem moneyAdd_any (x y:Int) (w:World) (hx:I64 x) (hy:I64 y) :
  Calls prog 164 #[.int .i64 x,.int .i64 y] w fun e w'=>e=.returned (.tuple #[.int .i64 (sumV (x+y)),sumE (x+y)])∧∃ c,w'=w.alloc c:=by
 have hI:Hid (∀ i,i<[x,y].length→I64 ([x,y].getD i 0)):=by
  intro i hi
  match i,hi with
  | 0,_=>exact hx
  | 1,_=>exact hy
 have hs:[x,y].sum=x+y:=by simp
 have Hs:Hid ([x,y].sum=x+y):=hs;clear hs;go_enter func164,ntmps164
 go_wp2_with fail;refine (sum_run w.heap.size 0 2 2 [x,y] _ rfl (by simp) hI ?_).mono ?_
 ·intro i hi
  match i,hi with
  | 0,_=>simp
  | 1,_=>simp
 ·rintro e w' ⟨rfl,hw⟩;rw [hw,Hs.out];clear hw w';go_wp2;go_ret2;exact ⟨rfl,_,rfl⟩
end
section
open Go.RowKit Go.Lib Go.Proofs.Tryz
def wBad (x:Int):Bool:=decide (x<0∨1000000000<x)
theorem w_take (l:List Int) (k:Nat) (h:k<l.length):l.take (k+1)=l.take k++[l.getD k 0]:=by
 rw [List.take_add_one,List.getElem?_eq_getElem h,List.getD_eq_getElem?_getD,List.getElem?_eq_getElem h];rfl
theorem w_mem (l:List Int) (k:Nat) (h:k<l.length):l.getD k 0∈l:=by
 rw [List.getD_eq_getElem?_getD,List.getElem?_eq_getElem h];exact List.getElem_mem h
theorem weigh1_any (x:Int) (w:World):Calls prog 205 #[.int .i64 x] w fun e w'=>e=.returned (.bool (wBad x))∧w'=w:=by
 unfold wBad;by_cases h:x<0∨1000000000<x
 ·have HC:Hid (Calls _ _ _ _ _):=isPart_no x w h;rw [decide_eq_true h];clear h;go_enter func205,ntmps205
  go_wp2_with fail;refine HC.out.mono ?_;rintro e w' ⟨rfl,hw⟩;rw [hw];clear hw w';go_wp2;go_ret;exact ⟨rfl,rfl⟩
 ·have HC:Hid (Calls _ _ _ _ _):=Qce x w (by omega) (by omega)
  rw [decide_eq_false h];clear h;go_enter func205,ntmps205
  go_wp2_with fail;refine HC.out.mono ?_;rintro e w' ⟨rfl,hw⟩;rw [hw];clear hw w';go_wp2;go_ret;exact ⟨rfl,rfl⟩
set_option maxHeartbeats 2000000 in
theorem wIdx_any (a:Option Addr) (l:List Int) (cap:Nat) (w:World) (h:IsW w a l cap) (hl:l.length≤1000000) :
  Calls prog 238 #[.slice a l.length cap,.func (.func 205) #[] #[]] w fun e w'=>(∃ r:Int,e=.returned (.int .i64 r)∧decide (0≤r)=l.any wBad)∧w'=w:=by
 have Hc:Hid (∀ k,k<l.length→∃ b off,a=some ⟨b,off,none⟩∧b<w.heap.size∧w.cell? ⟨b,off+k,none⟩=some (.int .i64 (l.getD k 0))):=fun k hk=>h.at hk
 have hl':(l.length:Int)≤1000000:=by omega
 clear h;go_enter func238,ntmps238
 go_wp2;go_loop [8] (fun i=>∃ k:Nat,k≤l.length∧i=.int .i64 k∧Hid (∀ z∈l.take k,wBad z=false)) (fun i=>l.length - (RowKit.intOf i).toNat)
 case atStart=>exact ⟨0,Nat.zero_le _,rfl,fun z hz=>by simp at hz⟩
 case round=>
  obtain ⟨k,hk,rfl,H⟩:=hrel;by_cases hlt:k<l.length
  ·obtain ⟨b,off,rfl,hb,hc⟩:=Hc.out k hlt;have et:Hid (l.take (k+1)=l.take k++[l.getD k 0]):=w_take l k hlt;have em:Hid (l.getD k 0∈l):=w_mem l k hlt;generalize l.getD k 0=x at *
   have i0:(0:Int)≤k:=by omega
   have i1:(k:Int)<l.length:=by omega
   have HC:Hid (Calls _ _ _ _ _):=weigh1_any x w;cases hq:wBad x
   ·rw [hq] at HC;have HN:Hid (∀ z∈l.take (k+1),wBad z=false):=by
     unfold Hid;rw [et.out];intro z hz;rcases List.mem_append.1 hz with hz | hz
     ·exact H.out z hz
     ·rw [List.mem_singleton.1 hz];exact hq
    clear H et em hq;go_wp2_with (go_at_call 205;refine HC.out.mono ?_;rintro e w' ⟨rfl,rfl⟩);go_round
    case rel=>exact ⟨k+1,by omega,by go_num,HN⟩
    case measure=>simp [RowKit.intOf];omega
   ·rw [hq] at HC;have HE:Hid (decide (0≤(k:Int))=l.any wBad):=by
     unfold Hid;rw [List.any_eq_true.2 ⟨x,em.out,hq⟩];exact decide_eq_true i0
    clear H et em hq;go_wp2_with (go_at_call 205;refine HC.out.mono ?_;rintro e w' ⟨rfl,rfl⟩);go_ret;exact ⟨⟨k,rfl,HE.out⟩,rfl⟩
  ·have hk2:k=l.length:=by omega
   subst hk2;have HE:Hid (decide (0≤(-1:Int))=l.any wBad):=by
    unfold Hid;have h1:=H.out;rw [List.take_length] at h1;rw [show l.any wBad=false by rw [List.any_eq_false];intro z hz;rw [h1 z hz];simp]
    decide
   clear H;go_wp2;go_ret;exact ⟨⟨-1,rfl,HE.out⟩,rfl⟩
theorem wHas_any (a:Option Addr) (l:List Int) (cap:Nat) (w:World) (h:IsW w a l cap) (hl:l.length≤1000000) :
  Calls prog 204 #[.slice a l.length cap,.func (.func 205) #[] #[]] w fun e w'=>e=.returned (.bool (l.any wBad))∧w'=w:=by
 have HC:Hid (Calls _ _ _ _ _):=wIdx_any a l cap w h hl;clear h;generalize l.any wBad=q at *
 go_enter func204,ntmps204
 go_wp2_with fail;refine HC.out.mono ?_;rintro e w' ⟨⟨r,rfl,hr⟩,hw⟩;rw [hw];clear hw w';go_wp2;go_ret;refine ⟨?_,rfl⟩;rw [← hr];rfl
theorem Qhs (l:List Int):QbO l=if 40<l.length then 4 else if l.any wBad=true then 1 else if l.sum=0 then 6 else 0:=rfl
def Qhn (l:List Int):Int:=if QbO l=0 then l.sum else 0
def shE (n:Int):Value:=if n=0 then .nilIface else .iface 68 (.int .i64 n)
set_option maxHeartbeats 2000000 in
theorem weigh_any (a:Option Addr) (l:List Int) (cap:Nat) (w:World) (h:IsW w a l cap) (hl:l.length≤9223372036854775807) :
  Calls prog 177 #[.slice a l.length cap] w fun e w'=>e=.returned (.tuple #[.int .u64 (Qhn l),shE (QbO l)])∧w'=w:=by
 have n0:(0:Int)≤l.length:=by omega
 have n1:(l.length:Int)≤9223372036854775807:=by omega
 by_cases h1:40<l.length
 ·have e1:QbO l=4:=by rw [Qhs,if_pos h1]
  unfold Qhn;rw [e1];have h1':(40:Int)<l.length:=by omega
  clear h e1;go_enter func177,ntmps177
  go_wp2;go_ret2;exact ⟨rfl,rfl⟩
 ·have HC:Hid (Calls _ _ _ _ _):=wHas_any a l cap w h (by omega)
  have h1':¬ (40:Int)<l.length:=by omega
  cases h2:l.any wBad
  ·rw [h2] at HC;have hb:∀ z∈l,0≤z∧z≤1000000000:=fun z hz=>by
    have:=List.any_eq_false.1 h2 z hz
    unfold wBad at this;simp only [decide_eq_true_eq] at this;omega
   have e1:QbO l=if l.sum=0 then 6 else 0:=by rw [Qhs,if_neg h1,h2];rfl
   have Hb:Hid (∀ k,k≤l.length→0≤(l.take k).sum∧(l.take k).sum≤40000000000):=fun k hk=>by
    refine ⟨QcC fun z hz=>(hb z (List.mem_of_mem_take hz)).1,?_⟩
    have:=sum_le (l:=l.take k) (M:=1000000000) fun z hz=>(hb z (List.mem_of_mem_take hz)).2
    rw [List.length_take] at this;omega
   have Hx:Hid (∀ k,k<l.length→0≤l.getD k 0∧l.getD k 0≤1000000000):=fun k hk=>hb _ (w_mem l k hk)
   have Hc:Hid (∀ k,k<l.length→∃ b off,a=some ⟨b,off,none⟩∧b<w.heap.size∧w.cell? ⟨b,off+k,none⟩=some (.int .i64 (l.getD k 0))):=fun k hk=>h.at hk
   have He:Hid (QbO l=if l.sum=0 then 6 else 0):=e1
   clear h hb e1 h2;go_enter func177,ntmps177
   go_wp2_with (go_at_call 204;refine HC.out.mono ?_;rintro e w' ⟨rfl,hw⟩;rw [hw];clear hw w');clear HC;go_loop [4,16] (fun s i=>∃ k:Nat,k≤l.length∧i=.int .i64 k∧s=.int .u64 (l.take k).sum) (fun _ i=>l.length - (RowKit.intOf i).toNat)
   case atStart=>exact ⟨0,Nat.zero_le _,rfl,rfl⟩
   case round=>
    obtain ⟨k,hk,rfl,rfl⟩:=hrel;by_cases hlt:k<l.length
    ·obtain ⟨b,off,rfl,hb,hc⟩:=Hc.out k hlt;have Ht:Hid ((l.take (k+1)).sum=(l.take k).sum+l.getD k 0):=take_sum l k hlt;obtain ⟨x0,x1⟩:=Hx.out k hlt;obtain ⟨s0,s1⟩:=Hb.out k hk;generalize l.getD k 0=x at *
     generalize (l.take k).sum=s at *
     have i0:(0:Int)≤k:=by omega
     have i1:(k:Int)<l.length:=by omega
     go_wp2;go_round
     case rel=>exact ⟨k+1,by omega,by go_num,by rw [Ht.out]⟩
     case measure=>simp [RowKit.intOf];omega
    ·have hk2:k=l.length:=by omega
     subst hk2;obtain ⟨s0,s1⟩:=Hb.out l.length (Nat.le_refl _);rw [List.take_length] at s0 s1 ⊢;have HV:Hid (Qhn l=if (if l.sum=0 then (6:Int) else 0)=0 then l.sum else 0):=by unfold Hid Qhn;rw [He.out]
     have HW:Hid (shE (QbO l)=shE (if l.sum=0 then 6 else 0)):=by unfold Hid;rw [He.out]
     clear Hb Hx Hc He;by_cases hs:l.sum=0
     ·rw [hs] at HV HW ⊢;go_wp2;go_ret2;refine ⟨?_,rfl⟩;rw [HV.out,HW.out];rfl
     ·have hs':(l.sum == 0)=false:=by simp [hs]
      rw [if_neg hs,if_pos rfl] at HV;rw [if_neg hs] at HW;generalize l.sum=s at *
      go_wp2;go_ret2;refine ⟨?_,rfl⟩;rw [HV.out,HW.out];rfl
  ·rw [h2] at HC;have e1:QbO l=1:=by rw [Qhs,if_neg h1,h2];rfl
   unfold Qhn;rw [e1];clear h e1 h2;go_enter func177,ntmps177
   go_wp2_with (go_at_call 204;refine HC.out.mono ?_;rintro e w' ⟨rfl,hw⟩;rw [hw];clear hw w');go_ret2;exact ⟨rfl,rfl⟩
theorem part_any (T x A:Int) (w:World) (hT0:0≤T) (hT:T<18446744073709551616) (hx0:0≤x) (hx:x≤A) (hA:1≤A) (hA2:A<18446744073709551616) :
  Calls prog 179 #[.int .u64 T,.int .u64 x,.int .u64 A] w fun e w'=>e=.returned (.tuple #[.int .u64 (T*x / A),.int .u64 (T*x % A)])∧∃ n,w'=w.drewN n:=by
 have hp0:0≤T*x:=Int.mul_nonneg hT0 hx0;have hp1:T*x≤T*A:=Int.mul_le_mul_of_nonneg_left hx hT0;have hp2:T*A<18446744073709551616*A:=Int.mul_lt_mul_of_pos_right hT (by omega)
 have hp3:T*x / 18446744073709551616<A:=Int.ediv_lt_of_lt_mul (by omega) (by rw [Int.mul_comm A];omega)
 have HM:Hid (Calls _ _ _ _ _):=Qfi T x w hT0 hT hx0 (by omega)
 have HD:Hid (Calls _ _ _ _ _):=Qhf (T*x) A w hp0 hA hA2 hp3;clear hp1 hp2 hp3;generalize T*x=p at *
 go_enter func179,ntmps179
 go_wp2_with fail;refine HM.out.mono ?_;rintro e w' ⟨rfl,hw⟩;rw [hw];clear hw w';go_wp2_with fail;refine HD.out.mono ?_;rintro e w' ⟨rfl,n,hw⟩;rw [hw];clear hw w';go_wp2;go_ret2;exact ⟨rfl,n,rfl⟩
end
section
open Go.RowKit Go.Lib Go.Proofs.Tryz
def QdL (w:World) (g:Nat) (r:List Int):Prop:=w.heap[g]? = some (.cells (r.map (Value.int .u64)).toArray 242 (0,0))
theorem QdL.cell {w:World} {g:Nat} {r:List Int} (h:QdL w g r) {i:Nat} (hi:i<r.length):w.cell? ⟨g,i,none⟩=some (.int .u64 (r.getD i 0)):=by
 unfold QdL at h;simp [World.cell?,h,List.getD_eq_getElem?_getD,List.getElem?_eq_getElem hi]
theorem QdL.frozen {w:World} {g:Nat} {r:List Int} (h:QdL w g r) (i:Nat):w.frozen? ⟨g,i,none⟩=false:=by
 unfold QdL at h;simp [World.frozen?,h]
theorem QdL.lt {w:World} {g:Nat} {r:List Int} (h:QdL w g r):g<w.heap.size:=(Array.getElem?_eq_some_iff.1 h).1
theorem QdL.made (w:World) (n:Nat):QdL (w.alloc (.cells (madeCells #[.int .u64 0] n) 242)) w.heap.size (List.replicate n 0):=by
 unfold QdL;rw [show (w.alloc (.cells (madeCells #[.int .u64 0] n) 242)).heap[w.heap.size]? = some (.cells (madeCells #[.int .u64 0] n) 242 (0,0)) by unfold World.alloc;simp only [Array.getElem?_push_size]]
 congr 2;apply Array.ext
 ·simp [madeCells]
 ·intro i h1 h2;simp [madeCells,Nat.mod_one]
theorem QdL.below {w w':World} {g n:Nat} {r:List Int} (h:QdL w g r) (hb:Below n w w') (hg:g<n):QdL w' g r:=(hb.block g hg).trans h
theorem QdL.alloc {w:World} {g:Nat} {r:List Int} (h:QdL w g r) (o:Obj):QdL (w.alloc o) g r:=h.below ((Below.refl w.heap.size w).alloc (Nat.le_refl _) o) h.lt
theorem QdL.set {w:World} {g:Nat} {r:List Int} (h:QdL w g r) (i:Nat) (x:Int):QdL (w.setCell ⟨g,i,none⟩ (.int .u64 x)) g (r.set i x):=by
 unfold QdL at *
 rw [setCell_eq_setRow w g i _ 242 (0,0) _ h,setRow_heap w g _ _ 242 (0,0) h];simp [List.map_set]
theorem QdL.other {w:World} {g g':Nat} {r:List Int} (h:QdL w g r) (hn:g≠g') (i:Nat) (v:Value):QdL (w.setCell ⟨g',i,none⟩ v) g r:=(Below.heap_setCell _ _ _ _ hn).trans h
theorem take_sum_le {l:List Int} (h:∀ x∈l,0≤x) (k:Nat):(l.take k).sum≤l.sum:=by
 have e:l.sum=(l.take k).sum+(l.drop k).sum:=by rw [← List.sum_append,List.take_append_drop]
 have:=QcC (l:=l.drop k) fun x hx=>h x (List.mem_of_mem_drop hx)
 omega
theorem range_take (l:List Int) (k:Nat) (h:k≤l.length):(List.range k).map (fun i=>l.getD i 0)=l.take k:=by
 apply List.ext_getElem
 ·simp;omega
 ·intro i h1 h2;have h3:i<l.length:=by simp at h1;omega
  simp [List.getD_eq_getElem?_getD,List.getElem?_eq_getElem h3]
def Qdw (T:Int) (ws:List Int) (k:Nat):Int:=T - ((List.range k).map (fun i=>(Qa2 T ws).getD i 0)).sum
theorem leftK_zero (T:Int) (ws:List Int):Qdw T ws 0=T:=by simp [Qdw]
theorem Qi7 (T:Int) (ws:List Int) (k:Nat):Qdw T ws (k+1)=Qdw T ws k - (Qa2 T ws).getD k 0:=by
 unfold Qdw;rw [List.range_succ,List.map_append,List.sum_append];simp only [List.map_cons,List.map_nil,List.sum_cons,List.sum_nil];omega
theorem leftK_all (T:Int) (ws:List Int):Qdw T ws ws.length=QcK T ws:=by
 unfold Qdw QcK
 have:=Qde (Qa2 T ws)
 rw [Qd6] at this;rw [this]
theorem Qgm {T:Int} {ws:List Int} (hT:0≤T) (h:Qet ws):∀ x∈Qa2 T ws,0≤x:=by
 intro x hx;unfold Qa2 at hx;obtain ⟨y,hy,rfl⟩:=List.mem_map.1 hx;exact Int.ediv_nonneg (Int.mul_nonneg hT (h.2.1 y hy).1) (by have:=h.2.2;omega)
theorem leftK_bd {T:Int} {ws:List Int} (hT:0≤T) (h:Qet ws) (k:Nat) (hk:k≤ws.length):0≤Qdw T ws k∧Qdw T ws k≤T:=by
 unfold Qdw;rw [range_take _ _ (by rw [Qd6];exact hk)]
 have h1:=take_sum_le (Qgm hT h) k;have h2:=QcL (T:=T) h;have h3:=QcC (l:=(Qa2 T ws).take k) fun x hx=>Qgm hT h x (List.mem_of_mem_take hx)
 unfold QcK at h2;omega
def Qiv (T:Int) (ws:List Int) (s:List Nat) (k:Nat):List Int:=(List.range ws.length).map fun i=>(Qa2 T ws).getD i 0+(if i∈s.take k then 1 else 0)
theorem rowK_len (T:Int) (ws:List Int) (s:List Nat) (k:Nat):(Qiv T ws s k).length=ws.length:=by simp [Qiv]
theorem rowK_at (T:Int) (ws:List Int) (s:List Nat) (k i:Nat) (h:i<ws.length):(Qiv T ws s k).getD i 0=(Qa2 T ws).getD i 0+(if i∈s.take k then 1 else 0):=by
 simp [Qiv,List.getD_eq_getElem?_getD,h]
theorem rowK_zero (T:Int) (ws:List Int) (s:List Nat):Qiv T ws s 0=Qa2 T ws:=by
 unfold Qiv
 have:=Qde (Qa2 T ws)
 rw [Qd6] at this
 conv=>rhs;rw [← this]
 apply List.map_congr_left;intro i hi;simp
theorem rowK_step (T:Int) (ws:List Int) (s:List Nat) (k:Nat) (hs:s.Nodup) (hk:k<s.length) (hb:s.getD k 0<ws.length):(Qiv T ws s k).set (s.getD k 0) ((Qa2 T ws).getD (s.getD k 0) 0+1)=Qiv T ws s (k+1):=by
 have e:s.take (k+1)=s.take k++[s.getD k 0]:=take_one hk;apply List.ext_getElem
 ·simp [rowK_len]
 ·intro i h1 h2;have gk:∀ k (h:i<(Qiv T ws s k).length),(Qiv T ws s k)[i]'h=(Qa2 T ws).getD i 0+(if i∈s.take k then 1 else 0):=fun k h=>by simp [Qiv]
  rw [List.getElem_set,gk,gk,e];by_cases hi:s.getD k 0=i
  ·rw [if_pos hi,if_pos (by rw [← hi];simp),hi]
  ·rw [if_neg hi];congr 1
   have:i∈s.take k++[s.getD k 0]↔i∈s.take k:=by
    rw [List.mem_append,List.mem_singleton];constructor
    ·rintro (h | h)
     ·exact h
     ·exact absurd h.symm hi
    ·exact Or.inl
   simp only [this]
theorem not_ahead {s:List Nat} {k:Nat} (hs:s.Nodup) (hk:k<s.length):¬ s.getD k 0∈s.take k:=by
 intro h;have e:s=s.take k++(s.getD k 0 :: s.drop (k+1)):=by rw [← drop_one hk,List.take_append_drop]
 generalize s.getD k 0=x at *
 rw [e] at hs;exact (List.nodup_append.1 hs).2.2 x h x (by simp) rfl
theorem rowK_all {T:Int} {ws:List Int} (h:Qet ws) {s:List Nat} (h1:s.Perm (List.range ws.length)) (h2:s.Pairwise (LT (QdE T ws))):Qiv T ws s (QcK T ws).toNat=(List.range ws.length).map (Qbv T ws):=by
 unfold Qiv;apply List.map_congr_left;intro i hi;unfold Qbv QiE;have h0:=QcL (T:=T) h
 have:=take_rank (cut:=QdE T ws) (l:=s) (by rw [Qdo];exact h1) h2 (i:=i) (by rw [Qdo];exact List.mem_range.1 hi) (QcK T ws).toNat
 congr 1;by_cases hr:rank (QdE T ws) i<(QcK T ws).toNat
 ·rw [if_pos (this.2 hr),if_pos (by omega)]
 ·rw [if_neg (fun e=>hr (this.1 e)),if_neg (by omega)]
def Qdf (t:Int) (ws:List Int) (w:World) (e:Ending) (w':World):Prop:=
 Below w.heap.size w w'∧(QbO ws≠0→e=.returned (.tuple #[.slice none 0 0,.iface 68 (.int .i64 (QbO ws))])) ∧
  (QbO ws=0→∃ g,w.heap.size≤g∧e=.returned (.tuple #[.slice (some ⟨g,0,none⟩) ws.length ws.length,.nilIface])∧Qbj w' g ((List.range ws.length).map (Qa4 t ws)))
end
end Go.Proofs.YtibhgngboljhfaaGreatDoor
