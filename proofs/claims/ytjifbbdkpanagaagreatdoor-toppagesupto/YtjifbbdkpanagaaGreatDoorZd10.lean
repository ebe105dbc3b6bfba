/-
  Part of a proof (see the last text).
-/
import Derived.Test.YtjifbbdkpanagaaGreatDoorZd9
import Derived.Test.YtjifbbdkpanagaaGreatDoorRows
import Derived.Lib.Small
import Derived.Lib.Walk
import Derived.Lib.Mul64
set_option linter.unusedVariables false
set_option linter.unusedSimpArgs false
namespace Go.Proofs.YtjifbbdkpanagaaGreatDoor
open Go.RowKit Go.Lib Go.Proofs.Tryz
theorem rank_count (cut:List Int) (k:Nat) (hk:k≤cut.length):((List.range cut.length).countP fun i=>decide (rank cut i<k))=k:=by
 obtain ⟨l,h1,h2⟩:=order_ex cut;have hl:l.length=cut.length:=by rw [h1.length_eq,List.length_range]
 rw [← h1.countP_eq];have hr:∀ p (hp:p<l.length),rank cut l[p]=p:=fun p hp=>by
  unfold rank;rw [← h1.countP_eq];exact rank_pos h2 hp
 rw [← List.take_append_drop k l,List.countP_append];have c1:(l.take k).countP (fun i=>decide (rank cut i<k))=k:=by
  rw [List.countP_eq_length.2,List.length_take]
  ·omega
  ·intro a ha;obtain ⟨q,hq,e⟩:=List.getElem_of_mem ha;rw [List.length_take] at hq;rw [List.getElem_take] at e
   have:=hr q (by omega)
   rw [e] at this;simp only [decide_eq_true_eq];omega
 have c2:(l.drop k).countP (fun i=>decide (rank cut i<k))=0:=by
  rw [List.countP_eq_zero];intro a ha;obtain ⟨q,hq,e⟩:=List.getElem_of_mem ha;rw [List.length_drop] at hq;rw [List.getElem_drop] at e
  have:=hr (k+q) (by omega)
  rw [e] at this;simp only [decide_eq_true_eq];omega
 rw [c1,c2,Nat.add_zero]
theorem sum_ones (p:Nat→Bool) (l:List Nat):(l.map fun i=>if p i=true then (1:Int) else 0).sum=(l.countP p:Nat):=by
 induction l with
 | nil=>simp
 | cons y ys ih=>
  rw [List.map_cons,List.sum_cons,ih,List.countP_cons];by_cases h:p y=true
  ·simp only [h,if_true];omega
  ·simp only [h,Bool.false_eq_true,if_false];omega
theorem sum_map_add (f g:Nat→Int) (l:List Nat):(l.map fun i=>f i+g i).sum=(l.map f).sum+(l.map g).sum:=by
 induction l with
 | nil=>simp
 | cons y ys ih=>simp only [List.map_cons,List.sum_cons,ih];omega
theorem sum_map_neg (f:Nat→Int) (l:List Nat):(l.map fun i=>-(f i)).sum = -(l.map f).sum:=by
 induction l with
 | nil=>simp
 | cons y ys ih=>simp only [List.map_cons,List.sum_cons,ih];omega
theorem range_getD (l:List Int):(List.range l.length).map (fun i=>l.getD i 0)=l:=by
 apply List.ext_getElem
 ·simp
 ·intro i h1 h2;simp [List.getD_eq_getElem?_getD,List.getElem?_eq_getElem h2]
def Qdr (T:Int) (ws:List Int) (i:Nat):Int:=(Qgu T ws).getD i 0+moreI T ws i
theorem QeK (t:Int) (ws:List Int) (i:Nat):Qds t ws i=if t<0 then -Qdr (QeC t) ws i else Qdr (QeC t) ws i:=rfl
theorem Qh4 {T:Int} {ws:List Int} (h:Qgm ws):((List.range ws.length).map (Qdr T ws)).sum=T:=by
 have e:(List.range ws.length).map (Qdr T ws)=(List.range ws.length).map (fun i=>(Qgu T ws).getD i 0+moreI T ws i):=rfl
 rw [e,sum_map_add];have e1:=range_getD (Qgu T ws);rw [partL_len] at e1;rw [e1];have h0:=QgT (T:=T) h;have h1:=left_le (T:=T) h;have e2:(List.range ws.length).map (moreI T ws)=(List.range ws.length).map (fun i=>if decide (rank (cutL T ws) i<(QfJ T ws).toNat)=true then (1:Int) else 0):=by
  apply List.map_congr_left;intro i hi;unfold moreI;by_cases hc:(rank (cutL T ws) i:Int)<QfJ T ws
  ·rw [if_pos hc,if_pos (by simp only [decide_eq_true_eq];omega)]
  ·rw [if_neg hc,if_neg (by simp only [decide_eq_true_eq];omega)]
 rw [e2,sum_ones];have e3:=rank_count (cutL T ws) (QfJ T ws).toNat (by rw [cutL_len];omega)
 rw [cutL_len] at e3;rw [e3];unfold QfJ at *
 omega
theorem more_bd (T:Int) (ws:List Int) (i:Nat):0≤moreI T ws i∧moreI T ws i≤1:=by unfold moreI;split <;> omega
theorem part_nonneg' {T:Int} {ws:List Int} (hT:0≤T) (h:Qgm ws) {i:Nat} (hi:i<ws.length):0≤(Qgu T ws).getD i 0:=by
 rw [partL_at T ws hi];have hm:ws.getD i 0∈ws:=by rw [List.getD_eq_getElem?_getD,List.getElem?_eq_getElem hi];exact List.getElem_mem hi
 exact Int.ediv_nonneg (Int.mul_nonneg hT (h.2.1 _ hm).1) (by have:=h.2.2;omega)
theorem Qf5 {T:Int} {ws:List Int} (hT:0≤T) (h:Qgm ws) {i:Nat} (hi:i<ws.length):0≤Qdr T ws i:=by
 have:=part_nonneg' hT h hi
 have:=more_bd T ws i
 unfold Qdr;omega
theorem gross_le {T:Int} {ws:List Int} (hT:0≤T) (h:Qgm ws) {i:Nat} (hi:i<ws.length):Qdr T ws i≤T:=by
 have h1:=mem_le_sum (l:=(List.range ws.length).map (Qdr T ws)) (fun x hx=>by
  obtain ⟨j,hj,rfl⟩:=List.mem_map.1 hx;exact Qf5 hT h (List.mem_range.1 hj)) (List.mem_map.2 ⟨i,List.mem_range.2 hi,rfl⟩)
 rw [Qh4 h] at h1;exact h1
theorem Qga (t:Int):0≤QeC t:=by unfold QeC;split <;> omega
theorem share_sum {t:Int} {ws:List Int} (h:Qgm ws):((List.range ws.length).map (Qds t ws)).sum=t:=by
 by_cases ht:t<0
 ·have e:(List.range ws.length).map (Qds t ws)=(List.range ws.length).map (fun i=>-(Qdr (QeC t) ws i)):=by
   apply List.map_congr_left;intro i hi;rw [QeK,if_pos ht]
  rw [e,sum_map_neg,show (List.range ws.length).map (fun i=>Qdr (QeC t) ws i)=(List.range ws.length).map (Qdr (QeC t) ws) from rfl,Qh4 h]
  unfold QeC;rw [if_pos ht];omega
 ·have e:(List.range ws.length).map (Qds t ws)=(List.range ws.length).map (Qdr (QeC t) ws):=by
   apply List.map_congr_left;intro i hi;rw [QeK,if_neg ht]
  rw [e,Qh4 h];unfold QeC;rw [if_neg ht]
theorem share_bd {t:Int} {ws:List Int} (h:Qgm ws) {i:Nat} (hi:i<ws.length):(0≤t→0≤Qds t ws i∧Qds t ws i≤t)∧(t≤0→t≤Qds t ws i∧Qds t ws i≤0):=by
 have h1:=Qf5 (Qga t) h hi;have h2:=gross_le (Qga t) h hi;rw [QeK];unfold QeC at *
 by_cases ht:t<0
 ·rw [if_pos ht] at *
  rw [if_pos ht];constructor <;> intro <;> omega
 ·rw [if_neg ht] at *
  rw [if_neg ht];constructor <;> intro <;> omega
end Go.Proofs.YtjifbbdkpanagaaGreatDoor
namespace Go.Proofs.YtjifbbdkpanagaaGreatDoor.Math
structure QcC (u u1 y1 y0 q r:Nat):Prop where
 eq:u=q*y1+r
 ge:(u*4294967296+u1) / (y1*4294967296+y0)≤q
theorem div_start (u u1 y1 y0:Nat) (h1:0<y1) (hu1:u1<4294967296):QcC u u1 y1 y0 (u / y1) (u % y1):=by
 refine ⟨?_,?_⟩
 ·have:=Nat.div_add_mod u y1
  rw [Nat.mul_comm] at this;omega
 ·have hy:0<y1*4294967296+y0:=by omega
  rw [Nat.div_le_iff_le_mul_add_pred hy];have e:=Nat.div_add_mod u y1;have l:=Nat.mod_lt u h1;generalize u / y1=q at *
  generalize u % y1=r at *
  have e2:(y1*4294967296+y0)*q=y1*q*4294967296+y0*q:=by
   rw [Nat.add_mul,Nat.mul_right_comm]
  rw [e2];generalize y1*q=t at *
  generalize y0*q=t0 at *
  omega
theorem quo_lt (u u1 y:Nat) (hu:u<y) (hu1:u1<4294967296):(u*4294967296+u1) / y<4294967296:=by
 rw [Nat.div_lt_iff_lt_mul (by omega)]
 omega
theorem div_round (u u1 y1 y0 q r:Nat) (h:QcC u u1 y1 y0 q r) (hu:u<y1*4294967296+y0) (hu1:u1<4294967296)
  (hc:4294967296≤q∨r*4294967296+u1<q*y0):1≤q∧QcC u u1 y1 y0 (q - 1) (r+y1):=by
 have hq:(u*4294967296+u1) / (y1*4294967296+y0)<q:=by
  rcases hc with hc | hc
  ·exact Nat.lt_of_lt_of_le (quo_lt u u1 _ hu hu1) hc
  ·rw [Nat.div_lt_iff_lt_mul (by omega)]
   have e:=h.eq;have e2:q*(y1*4294967296+y0)=q*y1*4294967296+q*y0:=by
    rw [Nat.mul_add,Nat.mul_assoc]
   rw [e2,e,Nat.add_mul,Nat.add_assoc];exact Nat.add_lt_add_left hc _
 have h1:1≤q:=Nat.lt_of_le_of_lt (Nat.zero_le _) hq;refine ⟨h1,?_,Nat.le_sub_one_of_lt hq⟩;have e:=h.eq;obtain ⟨p,rfl⟩:∃ p,q=p+1:=⟨q - 1,by omega⟩
 simp only [Nat.add_sub_cancel];rw [Nat.add_mul] at e;omega
theorem div_stop (u u1 y1 y0 q r:Nat) (h:QcC u u1 y1 y0 q r) (hu:u<y1*4294967296+y0)
  (hc:q*y0≤r*4294967296+u1):q=(u*4294967296+u1) / (y1*4294967296+y0):=by
 refine Nat.le_antisymm ?_ h.ge;rw [Nat.le_div_iff_mul_le (by omega)]
 have e:=h.eq;have e2:q*(y1*4294967296+y0)=q*y1*4294967296+q*y0:=by
  rw [Nat.mul_add,Nat.mul_assoc]
 rw [e2];generalize q*y1=t at *
 generalize q*y0=t0 at *
 omega
theorem Qce (u u1 y1 y0 q r:Nat) (h:QcC u u1 y1 y0 q r) (hu:u<y1*4294967296+y0) (h0:y0<4294967296)
  (hr:4294967296≤r):q=(u*4294967296+u1) / (y1*4294967296+y0):=by
 have hq:q<4294967296:=by
  apply Classical.byContradiction;intro hn;have hn:4294967296≤q:=by omega
  have e:=h.eq
  have:=Nat.mul_le_mul_right y1 hn
  generalize q*y1=t at *
  omega
 refine div_stop u u1 y1 y0 q r h hu ?_
 have:=Nat.mul_le_mul (Nat.le_of_lt hq) (Nat.le_of_lt h0)
 omega
theorem Qhr (lo P Q:Nat) (hPQ:P*Q=18446744073709551616):lo / Q*18446744073709551616+lo*P % 18446744073709551616=lo*P:=by
 have hP:0<P:=by
  rcases Nat.eq_zero_or_pos P with h | h
  ·rw [h,Nat.zero_mul] at hPQ;omega
  ·exact h
 have e:lo*P / 18446744073709551616=lo / Q:=by
  rw [← hPQ,Nat.mul_comm P Q,Nat.mul_div_mul_right _ _ hP]
 have:=Nat.div_add_mod (lo*P) 18446744073709551616
 rw [e] at this;omega
theorem two_steps (U32 un1 un0 Y:Nat) (hY:0<Y) :
  (U32*18446744073709551616+(un1*4294967296+un0)) / Y=(U32*4294967296+un1) / Y*4294967296+((U32*4294967296+un1) % Y*4294967296+un0) / Y ∧
  (U32*18446744073709551616+(un1*4294967296+un0)) % Y=((U32*4294967296+un1) % Y*4294967296+un0) % Y:=by
 have e:U32*18446744073709551616+(un1*4294967296+un0)=((U32*4294967296+un1) % Y*4294967296+un0)+Y*((U32*4294967296+un1) / Y*4294967296):=by
  have h:=Nat.div_add_mod (U32*4294967296+un1) Y;rw [← Nat.mul_assoc];generalize Y*((U32*4294967296+un1) / Y)=t at *
  generalize (U32*4294967296+un1) % Y=r at *
  omega
 rw [e,Nat.add_mul_div_left _ _ hY,Nat.add_mul_mod_self_left];exact ⟨Nat.add_comm _ _,rfl⟩
theorem div64_math (hi lo y P Q:Nat) (hPQ:P*Q=18446744073709551616) (hy:0<y) :
  let U:=hi*P+lo / Q
  let V:=lo*P % 18446744073709551616
  let Y:=y*P
  (U*4294967296+V / 4294967296) / Y*4294967296+((U*4294967296+V / 4294967296) % Y*4294967296+V % 4294967296) / Y=(hi*18446744073709551616+lo) / y ∧
  ((U*4294967296+V / 4294967296) % Y*4294967296+V % 4294967296) % Y / P=(hi*18446744073709551616+lo) % y:=by
 intro U V Y;have hP:0<P:=by
  rcases Nat.eq_zero_or_pos P with h | h
  ·rw [h,Nat.zero_mul] at hPQ;omega
  ·exact h
 have hY:0<Y:=Nat.mul_pos hy hP;have h2:=two_steps U (V / 4294967296) (V % 4294967296) Y hY;have e:U*18446744073709551616+(V / 4294967296*4294967296+V % 4294967296)=(hi*18446744073709551616+lo)*P:=by
  have h1:=Qhr lo P Q hPQ;have h3:V / 4294967296*4294967296+V % 4294967296=V:=Nat.div_add_mod' _ _;rw [h3];show (hi*P+lo / Q)*18446744073709551616+lo*P % 18446744073709551616=_;rw [Nat.add_mul,Nat.add_mul,Nat.add_assoc,h1,Nat.mul_right_comm]
 rw [e] at h2;rw [← h2.1,← h2.2];refine ⟨Nat.mul_div_mul_right _ _ hP,?_⟩;rw [Nat.mul_mod_mul_right,Nat.mul_div_cancel _ hP]
def I64 (x:Int):Prop:=-9223372036854775808≤x∧x≤9223372036854775807
def loW (s:Int):Int:=s % 18446744073709551616
def hiW (s:Int):Int:=s / 18446744073709551616 % 18446744073709551616
theorem loW_bd (s:Int):0≤loW s∧loW s<18446744073709551616:=by unfold loW;omega
theorem loW_add (s a:Int):(loW s+loW a) % 18446744073709551616=loW (s+a):=by unfold loW;omega
theorem hiW_add (s a:Int) (h:I64 a):(hiW s+(loW (a / 9223372036854775808)+(loW s+loW a) / 18446744073709551616)) % 18446744073709551616=hiW (s+a):=by
 unfold hiW loW;unfold I64 at h;have key:(s+a) / 18446744073709551616=s / 18446744073709551616+a / 9223372036854775808+(s % 18446744073709551616+a % 18446744073709551616) / 18446744073709551616:=by
  by_cases h0:a<0
  ·have e1:a / 9223372036854775808 = -1:=by omega
   have e2:a % 18446744073709551616=a+18446744073709551616:=by omega
   rw [e1,e2];omega
  ·have e1:a / 9223372036854775808=0:=by omega
   have e2:a % 18446744073709551616=a:=by omega
   rw [e1,e2];omega
 rw [key];generalize (s % 18446744073709551616+a % 18446744073709551616) / 18446744073709551616=c;generalize s / 18446744073709551616=p;generalize a / 9223372036854775808=q;omega
def cW (s a:Int):Int:=(loW s+loW a) / 18446744073709551616
theorem hiW_step (s a:Int) (h:I64 a):(hiW s+(a / 9223372036854775808 % 18446744073709551616+cW s a) % 18446744073709551616) % 18446744073709551616=hiW (s+a):=by
 rw [← hiW_add s a h];unfold cW;generalize (loW s+loW a) / 18446744073709551616=c;unfold loW;generalize a / 9223372036854775808=q;generalize hiW s=p;omega
theorem sum_fits (s:Int) (h:-170141183460469231731687303715884105728≤s∧s<170141183460469231731687303715884105728) (x:Int)
  (hx:x=if loW s<9223372036854775808 then loW s else loW s - 18446744073709551616) :
  (hiW s=loW (x / 9223372036854775808)↔I64 s)∧(I64 s→x=s):=by
 unfold hiW loW at *;unfold I64;split at hx <;> omega
def upOf (w r d:Int):Int:=if 2*r > d∨(2*r=d∧w % 2=1) then 1 else 0
def QbV (m n d:Int):Int:=m*n / d+upOf (m*n / d) (m*n % d) d
def Qdy (a:Int):Int:=if a<0 then -a else a
def ratioV (a n d:Int):Int:=if a<0 then -(QbV (Qdy a) n d) else QbV (Qdy a) n d
theorem Qg5 (a:Int):0≤Qdy a:=by unfold Qdy;split <;> omega
theorem upOf_bd (w r d:Int):0≤upOf w r d∧upOf w r d≤1:=by unfold upOf;split <;> omega
theorem part_nonneg (m n d:Int) (h0:0≤m) (h2:0≤n) (hd:1≤d):0≤QbV m n d:=by
 have a:=Int.mul_nonneg h0 h2;have c:=Int.ediv_nonneg a (by omega:(0:Int)≤d)
 have u:=upOf_bd (m*n / d) (m*n % d) d;unfold QbV;omega
end Go.Proofs.YtjifbbdkpanagaaGreatDoor.Math
namespace Go.Proofs.YtjifbbdkpanagaaGreatDoor
open Go.RowKit Go.Lib Math Go.Proofs.Tryz
theorem tab_size:Lib.len8tab.size=256:=by kernel_rfl
theorem len_tab (t:Nat) (h:t<Lib.len8tab.size):((Lib.len8tab[t]'h).toNat:Int)=Lib.bitLen t:=by
 have h2:t<256:=by rw [tab_size] at h;exact h
 have e:=Lib.len8_of (t:Int) (by omega) (by omega)
 unfold Lib.len8 at e;rw [Int.toNat_natCast,getElem?_pos Lib.len8tab t h] at e;exact e
theorem QdM (x y:Int) (k K:Nat) (hK:K=2 ^ k) (hy:y=x / (K:Int)) (h1:(K:Int)≤x) (h2:x<K*256) (h3:x<18446744073709551616) (h:y.toNat<Lib.len8tab.size) (hk:k≤56) :
  wrap64 (k+wrap64 ((Lib.len8tab[y.toNat]'h).toNat:Int))=(Lib.bitLen x.toNat:Int):=by
 rw [len_tab];have h':y.toNat<256:=by rw [tab_size] at h;exact h
 clear h;have hKp:0<K:=by rw [hK];exact Nat.two_pow_pos k
 obtain ⟨x,rfl⟩:=Int.eq_ofNat_of_zero_le (by omega:0≤x)
 have e:y=((x / K:Nat):Int):=by rw [hy,Int.natCast_ediv]
 have hl:=Lib.bitLen_le8' (y.toNat:Int) (by omega) (by omega)
 rw [Int.toNat_natCast] at hl;have e3:y.toNat=x / K:=by rw [e,Int.toNat_natCast]
 rw [e3] at hl ⊢;have h3':x<18446744073709551616:=by omega
 have h1':K≤x:=by omega
 have:=Lib.bitLen_shift k x (by rw [← hK];exact h1') h3'
 rw [← hK] at this;rw [Int.toNat_natCast,this];generalize Lib.bitLen (x / K)=b at *
 clear this e3 e hy h1 h2 h3 h1' h3' hK hKp;unfold wrap64;omega
set_option maxHeartbeats 2000000 in
set_option maxRecDepth 100000 in
theorem len64_any (x:Int) (w:World) (h0:1≤x) (h1:x<18446744073709551616) :
  Calls prog 195 #[.int .u64 x] w fun e w'=>e=.returned (.int .i64 (Lib.bitLen x.toNat))∧w'=w:=by
 have hs:=tab_size;go_enter func195,ntmps195
 go_wp2;all_goals (go_ret;refine ⟨congrArg Ending.returned (congrArg (Value.int IntKind.i64) ?_),rfl⟩)
 ·exact QdM x _ 56 72057594037927936 (by decide) (by omega) (by omega) (by omega) h1 _ (by omega)
 ·exact QdM x _ 48 281474976710656 (by decide) (by omega) (by omega) (by omega) h1 _ (by omega)
 ·exact QdM x _ 40 1099511627776 (by decide) (by omega) (by omega) (by omega) h1 _ (by omega)
 ·exact QdM x _ 32 4294967296 (by decide) (by omega) (by omega) (by omega) h1 _ (by omega)
 ·exact QdM x _ 24 16777216 (by decide) (by omega) (by omega) (by omega) h1 _ (by omega)
 ·exact QdM x _ 16 65536 (by decide) (by omega) (by omega) (by omega) h1 _ (by omega)
 ·exact QdM x _ 8 256 (by decide) (by omega) (by omega) (by omega) h1 _ (by omega)
 ·have:=QdM x x 0 1 (by decide) (by omega) (by omega) (by omega) h1 (by rw [hs];omega) (by omega)
  simpa using this
theorem lead_any (x:Int) (w:World) (h0:1≤x) (h1:x<18446744073709551616) :
  Calls prog 254 #[.int .u64 x] w fun e w'=>e=.returned (.int .i64 (64 - Lib.bitLen x.toNat))∧w'=w:=by
 have hl:=Lib.bitLen_le x.toNat 64 (by omega) (by omega)
 generalize hb:Lib.bitLen x.toNat=b at *
 have Hb:Hid (Lib.bitLen x.toNat=b):=hb;clear hb;go_enter func254,ntmps254
 go_wp2_with fail;refine (len64_any _ _ h0 h1).mono ?_;rintro e w' ⟨rfl,hw⟩;rw [hw,Hb.out];clear hw w';go_wp2;go_ret;exact ⟨rfl,rfl⟩
end Go.Proofs.YtjifbbdkpanagaaGreatDoor
namespace Go.Proofs.YtjifbbdkpanagaaGreatDoor
open Go.RowKit Math Go.Proofs.Tryz
theorem QcI {u v y1 y0 q r:Nat} (h:QcC u v y1 y0 q r) (hu:u<y1*4294967296+y0) (hv:v<4294967296) (hc:4294967296≤q∨(r:Int)*4294967296+v<(q:Int)*y0) :
  1≤q∧QcC u v y1 y0 (q - 1) (r+y1):=div_round u v y1 y0 q r h hu hv (hc.imp id (fun h=>by
   have e:((r*4294967296+v:Nat):Int)<((q*y0:Nat):Int):=by rw [Int.natCast_add,Int.natCast_mul,Int.natCast_mul];exact h
   exact Int.ofNat_lt.1 e))
theorem Qfm {u v y1 y0 q r:Nat} (h:QcC u v y1 y0 q r) (hu:u<y1*4294967296+y0) (hc:(q:Int)*y0≤(r:Int)*4294967296+v):q=(u*4294967296+v) / (y1*4294967296+y0):=div_stop u v y1 y0 q r h hu (by
   have e:((q*y0:Nat):Int)≤((r*4294967296+v:Nat):Int):=by rw [Int.natCast_add,Int.natCast_mul,Int.natCast_mul];exact hc
   exact Int.ofNat_le.1 e)
set_option maxHeartbeats 4000000 in
set_option maxRecDepth 100000 in
theorem div64_core (hi lo y:Int) (b:Nat) (w:World) (h0:1≤hi) (h1:hi<y) (h2:y<18446744073709551616) (h3:0≤lo) (h4:lo<18446744073709551616)
  (hl:b≤64) (hl1:1≤b) (Hb:Hid (Lib.bitLen y.toNat=b))
  (Y H Lq u V y1 y0 v1 v0 q r u2 q2 r2 R:Nat)
  (rY:IntKind.u64.wrap (y*2 ^ (64 - b))=Y) (rH:IntKind.u64.wrap (hi*2 ^ (64 - b))=H) (rL:lo / 2 ^ (64 - (64 - b))=Lq) (rU:bits .or .u64 H Lq=u) (rV:IntKind.u64.wrap (lo*2 ^ (64 - b))=V)
  (rY1:(Y:Int) / 4294967296=y1) (rY0:bits .and .u64 (Y:Int) 4294967295=y0) (rV1:(V:Int) / 4294967296=v1) (rV0:bits .and .u64 (V:Int) 4294967295=v0)
  (b1:(2147483648:Int)≤y1) (b2:(y1:Int)<4294967296) (b3:(y0:Int)<4294967296) (b4:(v1:Int)<4294967296) (b5:(v0:Int)<4294967296) (b6:(u:Int)<18446744073709551616)
  (rq:IntKind.u64.wrap ((u:Int) / y1)=q) (rr:IntKind.u64.wrap (u - IntKind.u64.wrap (q*y1))=r)
  (Hu:Hid (u<y1*4294967296+y0)) (Hs:Hid (QcC u v1 y1 y0 q r)) (hr:(r:Int)<4294967296) (hq:(q:Int)<18446744073709551616)
  (Q:Nat) (HQ:Hid (Q=(u*4294967296+v1) / (y1*4294967296+y0))) (hQ:(Q:Int)<4294967296)
  (rW:IntKind.u64.wrap (IntKind.u64.wrap (IntKind.u64.wrap ((u:Int)*4294967296)+v1) - IntKind.u64.wrap ((Q:Int)*Y))=u2) (b7:(u2:Int)<18446744073709551616)
  (rq2:IntKind.u64.wrap ((u2:Int) / y1)=q2) (rr2:IntKind.u64.wrap (u2 - IntKind.u64.wrap (q2*y1))=r2)
  (Hu2:Hid (u2<y1*4294967296+y0)) (Hs2:Hid (QcC u2 v0 y1 y0 q2 r2)) (hr2:(r2:Int)<4294967296) (hq2:(q2:Int)<18446744073709551616)
  (Q2:Nat) (HQ2:Hid (Q2=(u2*4294967296+v0) / (y1*4294967296+y0))) (hQ2:(Q2:Int)<4294967296)
  (rR:IntKind.u64.wrap (IntKind.u64.wrap (IntKind.u64.wrap ((u2:Int)*4294967296)+v0) - IntKind.u64.wrap ((Q2:Int)*Y))=R) :
  Calls prog 233 #[.int .u64 hi,.int .u64 lo,.int .u64 y] w fun e w'=>e=.returned (.tuple #[.int .u64 ((Q:Int)*4294967296+Q2),.int .u64 ((R:Int) / 2 ^ (64 - b))])∧w'=w:=by
 have d0:(y == 0)=false:=by simp;omega
 have d1:(hi == 0)=false:=by simp;omega
 have d2:¬ y≤hi:=by omega
 have d3:((y1:Int) == 0)=false:=by simp;omega
 go_enter func233,ntmps233
 go_wp2_with fail;refine (lead_any _ _ (by omega) h2).mono ?_
 rintro e w' ⟨rfl,hw⟩;rw [hw,Hb.out];clear hw w';go_wp2;clear rY rH rL rU rV rY1 rY0 rV1 rV0 rq rr;go_loop [15,16] (fun tq tr=>∃ q r:Nat,(r:Int)<4294967296∧(q:Int)<18446744073709551616∧tq=.int .u64 q∧tr=.int .u64 r∧Hid (QcC u v1 y1 y0 q r)) (fun tq _=>(RowKit.intOf tq).toNat)
 case atStart=>exact ⟨q,r,hr,hq,rfl,rfl,Hs⟩
 case round=>
  obtain ⟨p,s,hs,hp,rfl,rfl,Hp⟩:=hrel;have hexit:Hid (∀ n:Nat,n=(u*4294967296+v1) / (y1*4294967296+y0)→n=Q):=fun n h=>h.trans HQ.out.symm
  by_cases c1:(4294967296:Int)≤p
  ·have S:=QcI Hp.out Hu.out (by omega) (.inl (by omega))
   have S1:(1:Int)≤p:=by omega
   have S2:Hid (QcC u v1 y1 y0 (p - 1) (s+y1)):=S.2;clear S Hp;by_cases c2:(4294967296:Int)≤s+y1
   ·have E:=hexit.out _ (Qce u v1 y1 y0 _ _ S2.out Hu.out (by omega) (by omega))
    have e1:(p:Int) - 1=Q:=by omega
    clear E;clear S2;go_wp2;clear rW rq2 rr2;go_loop [18,16] (fun tq tr=>∃ q r:Nat,(r:Int)<4294967296∧(q:Int)<18446744073709551616∧tq=.int .u64 q∧tr=.int .u64 r∧Hid (QcC u2 v0 y1 y0 q r)) (fun tq _=>(RowKit.intOf tq).toNat)
    case atStart=>exact ⟨q2,r2,hr2,hq2,rfl,rfl,Hs2⟩
    case round=>
     obtain ⟨m,t,ht,hm,rfl,rfl,Hm⟩:=hrel;have hexit2:Hid (∀ n:Nat,n=(u2*4294967296+v0) / (y1*4294967296+y0)→n=Q2):=fun n h=>h.trans HQ2.out.symm
     by_cases c1':(4294967296:Int)≤m
     ·have S:=QcI Hm.out Hu2.out (by omega) (.inl (by omega))
      have S1':(1:Int)≤m:=by omega
      have S2':Hid (QcC u2 v0 y1 y0 (m - 1) (t+y1)):=S.2;clear S Hm;by_cases c2':(4294967296:Int)≤t+y1
      ·have E:=hexit2.out _ (Qce u2 v0 y1 y0 _ _ S2'.out Hu2.out (by omega) (by omega))
       have e1':(m:Int) - 1=Q2:=by omega
       clear E;clear S2';go_wp2;go_ret2;exact ⟨rfl,rfl⟩
      ·go_wp2;go_round
       case rel=>exact ⟨m - 1,t+y1,by omega,by omega,by go_num,by go_num,S2'⟩
       case measure=>simp [RowKit.intOf];omega
     ·have m0:(0:Int)≤(m:Int)*y0:=Int.mul_nonneg (by omega) (by omega)
      have m1:(m:Int)*y0<18446744073709551616:=by
       have:=Int.mul_le_mul (by omega:(m:Int)≤4294967295) (by omega:(y0:Int)≤4294967295) (by omega) (by omega)
       omega
      by_cases c3':(t:Int)*4294967296+v0<(m:Int)*y0
      ·have S:=QcI Hm.out Hu2.out (by omega) (.inr c3')
       have S1':(1:Int)≤m:=by omega
       have S2':Hid (QcC u2 v0 y1 y0 (m - 1) (t+y1)):=S.2;clear S Hm;have c4':4294967296*(t:Int)+v0<(m:Int)*y0:=by omega
       by_cases c2':(4294967296:Int)≤t+y1
       ·have E:=hexit2.out _ (Qce u2 v0 y1 y0 _ _ S2'.out Hu2.out (by omega) (by omega))
        have e1':(m:Int) - 1=Q2:=by omega
        clear E;clear S2';go_wp2;go_ret2;exact ⟨rfl,rfl⟩
       ·go_wp2;go_round
        case rel=>exact ⟨m - 1,t+y1,by omega,by omega,by go_num,by go_num,S2'⟩
        case measure=>simp [RowKit.intOf];omega
      ·have E:=hexit2.out _ (Qfm Hm.out Hu2.out (by omega))
       subst E;have c5':¬ (4294967296*(t:Int)+v0<(m:Int)*y0):=by omega
       clear Hm c3';go_wp2;go_ret2;exact ⟨rfl,rfl⟩
   ·go_wp2;go_round
    case rel=>exact ⟨p - 1,s+y1,by omega,by omega,by go_num,by go_num,S2⟩
    case measure=>simp [RowKit.intOf];omega
  ·have p0:(0:Int)≤(p:Int)*y0:=Int.mul_nonneg (by omega) (by omega)
   have p1:(p:Int)*y0<18446744073709551616:=by
    have:=Int.mul_le_mul (by omega:(p:Int)≤4294967295) (by omega:(y0:Int)≤4294967295) (by omega) (by omega)
    omega
   by_cases c3:(s:Int)*4294967296+v1<(p:Int)*y0
   ·have S:=QcI Hp.out Hu.out (by omega) (.inr c3)
    have S1:(1:Int)≤p:=by omega
    have S2:Hid (QcC u v1 y1 y0 (p - 1) (s+y1)):=S.2;clear S Hp;have c4:4294967296*(s:Int)+v1<(p:Int)*y0:=by omega
    by_cases c2:(4294967296:Int)≤s+y1
    ·have E:=hexit.out _ (Qce u v1 y1 y0 _ _ S2.out Hu.out (by omega) (by omega))
     have e1:(p:Int) - 1=Q:=by omega
     clear E;clear S2;go_wp2;clear rW rq2 rr2;go_loop [18,16] (fun tq tr=>∃ q r:Nat,(r:Int)<4294967296∧(q:Int)<18446744073709551616∧tq=.int .u64 q∧tr=.int .u64 r∧Hid (QcC u2 v0 y1 y0 q r)) (fun tq _=>(RowKit.intOf tq).toNat)
     case atStart=>exact ⟨q2,r2,hr2,hq2,rfl,rfl,Hs2⟩
     case round=>
      obtain ⟨m,t,ht,hm,rfl,rfl,Hm⟩:=hrel;have hexit2:Hid (∀ n:Nat,n=(u2*4294967296+v0) / (y1*4294967296+y0)→n=Q2):=fun n h=>h.trans HQ2.out.symm
      by_cases c1':(4294967296:Int)≤m
      ·have S:=QcI Hm.out Hu2.out (by omega) (.inl (by omega))
       have S1':(1:Int)≤m:=by omega
       have S2':Hid (QcC u2 v0 y1 y0 (m - 1) (t+y1)):=S.2;clear S Hm;by_cases c2':(4294967296:Int)≤t+y1
       ·have E:=hexit2.out _ (Qce u2 v0 y1 y0 _ _ S2'.out Hu2.out (by omega) (by omega))
        have e1':(m:Int) - 1=Q2:=by omega
        clear E;clear S2';go_wp2;go_ret2;exact ⟨rfl,rfl⟩
       ·go_wp2;go_round
        case rel=>exact ⟨m - 1,t+y1,by omega,by omega,by go_num,by go_num,S2'⟩
        case measure=>simp [RowKit.intOf];omega
      ·have m0:(0:Int)≤(m:Int)*y0:=Int.mul_nonneg (by omega) (by omega)
       have m1:(m:Int)*y0<18446744073709551616:=by
        have:=Int.mul_le_mul (by omega:(m:Int)≤4294967295) (by omega:(y0:Int)≤4294967295) (by omega) (by omega)
        omega
       by_cases c3':(t:Int)*4294967296+v0<(m:Int)*y0
       ·have S:=QcI Hm.out Hu2.out (by omega) (.inr c3')
        have S1':(1:Int)≤m:=by omega
        have S2':Hid (QcC u2 v0 y1 y0 (m - 1) (t+y1)):=S.2;clear S Hm;have c4':4294967296*(t:Int)+v0<(m:Int)*y0:=by omega
        by_cases c2':(4294967296:Int)≤t+y1
        ·have E:=hexit2.out _ (Qce u2 v0 y1 y0 _ _ S2'.out Hu2.out (by omega) (by omega))
         have e1':(m:Int) - 1=Q2:=by omega
         clear E;clear S2';go_wp2;go_ret2;exact ⟨rfl,rfl⟩
        ·go_wp2;go_round
         case rel=>exact ⟨m - 1,t+y1,by omega,by omega,by go_num,by go_num,S2'⟩
         case measure=>simp [RowKit.intOf];omega
       ·have E:=hexit2.out _ (Qfm Hm.out Hu2.out (by omega))
        subst E;have c5':¬ (4294967296*(t:Int)+v0<(m:Int)*y0):=by omega
        clear Hm c3';go_wp2;go_ret2;exact ⟨rfl,rfl⟩
    ·go_wp2;go_round
     case rel=>exact ⟨p - 1,s+y1,by omega,by omega,by go_num,by go_num,S2⟩
     case measure=>simp [RowKit.intOf];omega
   ·have E:=hexit.out _ (Qfm Hp.out Hu.out (by omega))
    subst E;have c5:¬ (4294967296*(s:Int)+v1<(p:Int)*y0):=by omega
    clear Hp c3;go_wp2;clear rW rq2 rr2;go_loop [18,16] (fun tq tr=>∃ q r:Nat,(r:Int)<4294967296∧(q:Int)<18446744073709551616∧tq=.int .u64 q∧tr=.int .u64 r∧Hid (QcC u2 v0 y1 y0 q r)) (fun tq _=>(RowKit.intOf tq).toNat)
    case atStart=>exact ⟨q2,r2,hr2,hq2,rfl,rfl,Hs2⟩
    case round=>
     obtain ⟨m,t,ht,hm,rfl,rfl,Hm⟩:=hrel;have hexit2:Hid (∀ n:Nat,n=(u2*4294967296+v0) / (y1*4294967296+y0)→n=Q2):=fun n h=>h.trans HQ2.out.symm
     by_cases c1':(4294967296:Int)≤m
     ·have S:=QcI Hm.out Hu2.out (by omega) (.inl (by omega))
      have S1':(1:Int)≤m:=by omega
      have S2':Hid (QcC u2 v0 y1 y0 (m - 1) (t+y1)):=S.2;clear S Hm;by_cases c2':(4294967296:Int)≤t+y1
      ·have E:=hexit2.out _ (Qce u2 v0 y1 y0 _ _ S2'.out Hu2.out (by omega) (by omega))
       have e1':(m:Int) - 1=Q2:=by omega
       clear E;clear S2';go_wp2;go_ret2;exact ⟨rfl,rfl⟩
      ·go_wp2;go_round
       case rel=>exact ⟨m - 1,t+y1,by omega,by omega,by go_num,by go_num,S2'⟩
       case measure=>simp [RowKit.intOf];omega
     ·have m0:(0:Int)≤(m:Int)*y0:=Int.mul_nonneg (by omega) (by omega)
      have m1:(m:Int)*y0<18446744073709551616:=by
       have:=Int.mul_le_mul (by omega:(m:Int)≤4294967295) (by omega:(y0:Int)≤4294967295) (by omega) (by omega)
       omega
      by_cases c3':(t:Int)*4294967296+v0<(m:Int)*y0
      ·have S:=QcI Hm.out Hu2.out (by omega) (.inr c3')
       have S1':(1:Int)≤m:=by omega
       have S2':Hid (QcC u2 v0 y1 y0 (m - 1) (t+y1)):=S.2;clear S Hm;have c4':4294967296*(t:Int)+v0<(m:Int)*y0:=by omega
       by_cases c2':(4294967296:Int)≤t+y1
       ·have E:=hexit2.out _ (Qce u2 v0 y1 y0 _ _ S2'.out Hu2.out (by omega) (by omega))
        have e1':(m:Int) - 1=Q2:=by omega
        clear E;clear S2';go_wp2;go_ret2;exact ⟨rfl,rfl⟩
       ·go_wp2;go_round
        case rel=>exact ⟨m - 1,t+y1,by omega,by omega,by go_num,by go_num,S2'⟩
        case measure=>simp [RowKit.intOf];omega
      ·have E:=hexit2.out _ (Qfm Hm.out Hu2.out (by omega))
       subst E;have c5':¬ (4294967296*(t:Int)+v0<(m:Int)*y0):=by omega
       clear Hm c3';go_wp2;go_ret2;exact ⟨rfl,rfl⟩
end Go.Proofs.YtjifbbdkpanagaaGreatDoor
namespace Go.Proofs.YtjifbbdkpanagaaGreatDoor
open Go.RowKit Go.Lib Math Go.Proofs.Tryz
theorem ret_int {k:IntKind} {a b:Int} (h:a=b):Ending.returned (.int k a)=.returned (.int k b):=by rw [h]
theorem size_any (a:Int) (w:World) (h1:-9223372036854775808≤a) (h2:a≤9223372036854775807) :
  Calls prog 205 #[.int .i64 a] w fun e w'=>e=.returned (.int .u64 (Qdy a))∧w'=w:=by
 by_cases h:a<0
 ·go_enter func205,ntmps205
  go_wp2;go_ret;refine ⟨ret_int ?_,rfl⟩;rw [IntKind.wrap_u64,IntKind.wrap_u64];unfold Qdy;rw [if_pos h];omega
 ·go_enter func205,ntmps205
  go_wp2;go_ret;refine ⟨ret_int ?_,rfl⟩;unfold Qdy;rw [if_neg (by omega)]
theorem maskN (a:Nat) (ha:a<18446744073709551616):bits .and .u64 (a:Int) 4294967295=((a % 4294967296:Nat):Int):=by
 have h:=bits_and_u64_nat a 4294967295 ha (by omega)
 have e:a &&& 4294967295=a % 4294967296:=Nat.and_two_pow_sub_one_eq_mod a 32;rw [e] at h;exact h
theorem divN (a:Nat):(a:Int) / 4294967296=((a / 4294967296:Nat):Int):=by omega
theorem mulN (a b:Nat):(a:Int)*(b:Int)=((a*b:Nat):Int):=(Int.natCast_mul a b).symm
theorem addN (a b:Nat):(a:Int)+(b:Int)=((a+b:Nat):Int):=(Int.natCast_add a b).symm
theorem Qgp (a:Nat) (ha:a<18446744073709551616):IntKind.u64.wrap (a:Int)=(a:Int):=by rw [IntKind.wrap_u64];omega
theorem wrapM (a:Nat):IntKind.u64.wrap (a:Int)=((a % 18446744073709551616:Nat):Int):=by rw [IntKind.wrap_u64];omega
set_option maxHeartbeats 1000000 in
theorem mul64_nat (x y:Nat) (hx:x<18446744073709551616) (hy:y<18446744073709551616) (w:World) :
  Calls prog 232 #[.int .u64 x,.int .u64 y] w fun e w'=>e=.returned (.tuple #[.int .u64 ((x*y / 18446744073709551616:Nat):Int),.int .u64 ((x*y % 18446744073709551616:Nat):Int)])∧w'=w:=by
 obtain ⟨bd,bt,bw,hhi⟩:=Lib.mul64_hi x y hx hy;have ba:=Lib.half_mul_le (a:=x / 4294967296) (b:=y / 4294967296) (by omega) (by omega)
 have bb:=Lib.half_mul_le (a:=x / 4294967296) (b:=y % 4294967296) (by omega) (by omega)
 have bc:=Lib.half_mul_le (a:=x % 4294967296) (b:=y / 4294967296) (by omega) (by omega)
 have ba':x / 4294967296*(y / 4294967296)<18446744073709551616:=by omega
 have bb':x / 4294967296*(y % 4294967296)<18446744073709551616:=by omega
 have bc':x % 4294967296*(y / 4294967296)<18446744073709551616:=by omega
 have bh1:x / 4294967296*(y / 4294967296)+(x / 4294967296*(y % 4294967296)+x % 4294967296*(y % 4294967296) / 4294967296) / 4294967296<18446744073709551616:=by omega
 have bh:x / 4294967296*(y / 4294967296)+(x / 4294967296*(y % 4294967296)+x % 4294967296*(y % 4294967296) / 4294967296) / 4294967296+((x / 4294967296*(y % 4294967296)+x % 4294967296*(y % 4294967296) / 4294967296) % 4294967296+x % 4294967296*(y / 4294967296)) / 4294967296<18446744073709551616:=by omega
 go_enter func232,ntmps232
 go_wp2;simp only [maskN x hx,maskN y hy,divN,mulN,addN,Qgp _ bd,Qgp _ bb',Qgp _ bt,maskN _ bt,Qgp _ bc',Qgp _ bw,Qgp _ ba',Qgp _ bh1,Qgp _ bh,wrapM (x*y)];rw [hhi];go_ret2;exact ⟨rfl,rfl⟩
theorem QgV (x y:Int) (w:World) (hx0:0≤x) (hx:x<18446744073709551616) (hy0:0≤y) (hy:y<18446744073709551616) :
  Calls prog 232 #[.int .u64 x,.int .u64 y] w fun e w'=>e=.returned (.tuple #[.int .u64 (x*y / 18446744073709551616),.int .u64 (x*y % 18446744073709551616)])∧w'=w:=by
 obtain ⟨x,rfl⟩:=Int.eq_ofNat_of_zero_le hx0;obtain ⟨y,rfl⟩:=Int.eq_ofNat_of_zero_le hy0;refine (mul64_nat x y (by omega) (by omega) w).mono ?_
 rintro e w' ⟨rfl,rfl⟩;refine ⟨?_,rfl⟩;rw [Int.natCast_ediv,Int.natCast_emod,Int.natCast_mul];rfl
theorem withSign_no (s:Int) (w:World) (h0:0≤s) (h1:s≤9223372036854775807) :
  Calls prog 208 #[.int .u64 s,.bool false] w fun e w'=>e=.returned (.int .i64 s)∧w'=w:=by
 go_enter func208,ntmps208
 go_wp2;go_ret;exact ⟨rfl,rfl⟩
theorem withSign_yes (s:Int) (w:World) (h0:0≤s) (h1:s≤9223372036854775808) :
  Calls prog 208 #[.int .u64 s,.bool true] w fun e w'=>e=.returned (.int .i64 (-s))∧w'=w:=by
 go_enter func208,ntmps208
 go_wp2;go_ret;refine ⟨ret_int ?_,rfl⟩;rw [IntKind.wrap_u64];unfold wrap64;omega
theorem Qge (m r d:Int) (w:World) (h0:0≤m) (h1:0≤r) (h2:r<d) (h3:d≤1000000000) :
  Calls prog 239 #[.int .u64 m,.int .u64 r,.int .u64 d] w fun e w'=>e=.returned (.int .u64 (upOf m r d))∧w'=w:=by
 go_enter func239,ntmps239
 go_wp2
 all_goals
  go_ret;refine ⟨ret_int ?_,rfl⟩;unfold upOf
  try simp only [beq_iff_eq,beq_eq_false_iff_ne] at *
  first | rw [if_pos (by omega)] | rw [if_neg (by omega)]
abbrev errOver:Value:=.iface 66 (.int .i64 10)
theorem signed_no (m u:Int) (w:World) (h0:0≤m) (h1:m<18446744073709551616) (h2:0≤u) (h3:u≤1) (h:m+u≤9223372036854775807) :
  Calls prog 238 #[.int .u64 m,.int .u64 u,.bool false] w fun e w'=>e=.returned (.tuple #[.int .i64 (m+u),.nilIface])∧w'=w:=by
 have a1:m≤9223372036854775807:=by omega
 have a2:u≤9223372036854775807 - m:=by omega
 go_enter func238,ntmps238
 go_wp2_with (first | (go_at_call 208;refine (withSign_no _ _ (by omega) (by omega)).mono ?_;rintro e w' ⟨rfl,rfl⟩))
 go_ret2;exact ⟨rfl,rfl⟩
theorem signed_yes (m u:Int) (w:World) (h0:0≤m) (h1:m<18446744073709551616) (h2:0≤u) (h3:u≤1) (h:m+u≤9223372036854775808) :
  Calls prog 238 #[.int .u64 m,.int .u64 u,.bool true] w fun e w'=>e=.returned (.tuple #[.int .i64 (-(m+u)),.nilIface])∧w'=w:=by
 have a1:m≤9223372036854775808:=by omega
 have a2:u≤9223372036854775808 - m:=by omega
 go_enter func238,ntmps238
 go_wp2_with (first | (go_at_call 208;refine (withSign_yes _ _ (by omega) (by omega)).mono ?_;rintro e w' ⟨rfl,rfl⟩))
 go_ret2;exact ⟨rfl,rfl⟩
theorem Qik (m u:Int) (w:World) (h0:0≤m) (h1:m<18446744073709551616) (h2:0≤u) (h3:u≤1) (h:9223372036854775807<m+u) :
  Calls prog 238 #[.int .u64 m,.int .u64 u,.bool false] w fun e w'=>e=.returned (.tuple #[.int .i64 0,errOver])∧w'=w:=by
 by_cases a1:m≤9223372036854775807
 ·have a2:¬ u≤9223372036854775807 - m:=by omega
  go_enter func238,ntmps238
  go_wp2;go_ret2;exact ⟨rfl,rfl⟩
 ·go_enter func238,ntmps238
  go_wp2;go_ret2;exact ⟨rfl,rfl⟩
theorem QhS (m u:Int) (w:World) (h0:0≤m) (h1:m<18446744073709551616) (h2:0≤u) (h3:u≤1) (h:9223372036854775808<m+u) :
  Calls prog 238 #[.int .u64 m,.int .u64 u,.bool true] w fun e w'=>e=.returned (.tuple #[.int .i64 0,errOver])∧w'=w:=by
 by_cases a1:m≤9223372036854775808
 ·have a2:¬ u≤9223372036854775808 - m:=by omega
  go_enter func238,ntmps238
  go_wp2;go_ret2;exact ⟨rfl,rfl⟩
 ·go_enter func238,ntmps238
  go_wp2;go_ret2;exact ⟨rfl,rfl⟩
theorem div64_small (lo d:Int) (w:World) (h0:0≤lo) (h1:lo<18446744073709551616) (hd:1≤d) (hd2:d<18446744073709551616) :
  Calls prog 233 #[.int .u64 0,.int .u64 lo,.int .u64 d] w fun e w'=>e=.returned (.tuple #[.int .u64 (lo / d),.int .u64 (lo % d)])∧∃ n,w'=w.drewN n:=by
 have d0:(d == 0)=false:=by simp;omega
 go_enter func233,ntmps233
 go_wp2;go_quiet (fail)
 go_wp2;go_ret2;exact ⟨rfl,_,rfl⟩
end Go.Proofs.YtjifbbdkpanagaaGreatDoor
