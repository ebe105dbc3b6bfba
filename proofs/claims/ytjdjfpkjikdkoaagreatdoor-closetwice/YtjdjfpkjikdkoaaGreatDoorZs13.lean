/-
  Part of a proof (see the last text).
-/
import Derived.Test.YtjdjfpkjikdkoaaGreatDoorZs11
import Derived.Test.YtjdjfpkjikdkoaaGreatDoorZs12
import Derived.Test.YtjdjfpkjikdkoaaGreatDoorZs8
import Derived.Test.YtjdjfpkjikdkoaaGreatDoorZs4
import Derived.Test.YtjdjfpkjikdkoaaGreatDoorZs5
set_option linter.unusedVariables false
set_option linter.unusedSimpArgs false
set_option maxRecDepth 100000
namespace Go.Proofs.YtjdjfpkjikdkoaaGreatDoor
open Go.RowKit Go.Lib
def wBad (x:Int):Bool:=decide (x<0∨1000000000<x)
theorem w_take (l:List Int) (k:Nat) (h:k<l.length):l.take (k+1)=l.take k++[l.getD k 0]:=by
 rw [List.take_add_one,List.getElem?_eq_getElem h,List.getD_eq_getElem?_getD,List.getElem?_eq_getElem h]
 rfl
theorem w_mem (l:List Int) (k:Nat) (h:k<l.length):l.getD k 0∈l:=by
 rw [List.getD_eq_getElem?_getD,List.getElem?_eq_getElem h]
 exact List.getElem_mem h
theorem weigh1_any (x:Int) (w:World):Calls Tryz.prog 172 #[.int .i64 x] w fun e w'=>e=.returned (.bool (wBad x))∧w'=w:=by
 unfold wBad
 by_cases h:x<0∨1000000000<x
 ·have HC:Hid (Calls _ _ _ _ _):=isPart_no x w h
  rw [decide_eq_true h]
  clear h
  go_enter Tryz.func172,Tryz.ntmps172
  go_wp2_with fail
  refine HC.out.mono ?_
  rintro e w' ⟨rfl,hw⟩
  rw [hw];clear hw w'
  go_wp2
  go_ret
  exact ⟨rfl,rfl⟩
 ·have HC:Hid (Calls _ _ _ _ _):=isPart_yes x w (by omega) (by omega)
  rw [decide_eq_false h]
  clear h
  go_enter Tryz.func172,Tryz.ntmps172
  go_wp2_with fail
  refine HC.out.mono ?_
  rintro e w' ⟨rfl,hw⟩
  rw [hw];clear hw w'
  go_wp2
  go_ret
  exact ⟨rfl,rfl⟩
set_option maxHeartbeats 2000000 in
theorem wIdx_any (a:Option Addr) (l:List Int) (cap:Nat) (w:World) (h:IsW w a l cap) (hl:l.length≤1000000) :
  Calls Tryz.prog 199 #[.slice a l.length cap,.func (.func 172) #[] #[]] w fun e w'=>(∃ r:Int,e=.returned (.int .i64 r)∧decide (0≤r)=l.any wBad)∧w'=w:=by
 have Hc:Hid (∀ k,k<l.length→∃ b off,a=some ⟨b,off,none⟩∧b<w.heap.size∧w.cell? ⟨b,off+k,none⟩=some (.int .i64 (l.getD k 0))):=fun k hk=>h.at hk
 have hl':(l.length:Int)≤1000000:=by omega
 clear h
 go_enter Tryz.func199,Tryz.ntmps199
 go_wp2
 go_loop [8] (fun i=>∃ k:Nat,k≤l.length∧i=.int .i64 k∧Hid (∀ z∈l.take k,wBad z=false)) (fun i=>l.length - (RowKit.intOf i).toNat)
 case atStart=>exact ⟨0,Nat.zero_le _,rfl,fun z hz=>by simp at hz⟩
 case round=>
  obtain ⟨k,hk,rfl,H⟩:=hrel
  by_cases hlt:k<l.length
  ·obtain ⟨b,off,rfl,hb,hc⟩:=Hc.out k hlt
   have et:Hid (l.take (k+1)=l.take k++[l.getD k 0]):=w_take l k hlt
   have em:Hid (l.getD k 0∈l):=w_mem l k hlt
   generalize l.getD k 0=x at *
   have i0:(0:Int)≤k:=by omega
   have i1:(k:Int)<l.length:=by omega
   have HC:Hid (Calls _ _ _ _ _):=weigh1_any x w
   cases hq:wBad x
   ·rw [hq] at HC
    have HN:Hid (∀ z∈l.take (k+1),wBad z=false):=by
     unfold Hid;rw [et.out]
     intro z hz
     rcases List.mem_append.1 hz with hz | hz
     ·exact H.out z hz
     ·rw [List.mem_singleton.1 hz];exact hq
    clear H et em hq
    go_wp2_with (go_at_call 172;refine HC.out.mono ?_;rintro e w' ⟨rfl,rfl⟩)
    go_round
    case rel=>exact ⟨k+1,by omega,by go_num,HN⟩
    case measure=>simp [RowKit.intOf];omega
   ·rw [hq] at HC
    have HE:Hid (decide (0≤(k:Int))=l.any wBad):=by
     unfold Hid
     rw [List.any_eq_true.2 ⟨x,em.out,hq⟩];exact decide_eq_true i0
    clear H et em hq
    go_wp2_with (go_at_call 172;refine HC.out.mono ?_;rintro e w' ⟨rfl,rfl⟩)
    go_ret
    exact ⟨⟨k,rfl,HE.out⟩,rfl⟩
  ·have hk2:k=l.length:=by omega
   subst hk2
   have HE:Hid (decide (0≤(-1:Int))=l.any wBad):=by
    unfold Hid
    have h1:=H.out
    rw [List.take_length] at h1
    rw [show l.any wBad=false by rw [List.any_eq_false];intro z hz;rw [h1 z hz];simp]
    decide
   clear H
   go_wp2
   go_ret
   exact ⟨⟨-1,rfl,HE.out⟩,rfl⟩
theorem wHas_any (a:Option Addr) (l:List Int) (cap:Nat) (w:World) (h:IsW w a l cap) (hl:l.length≤1000000) :
  Calls Tryz.prog 171 #[.slice a l.length cap,.func (.func 172) #[] #[]] w fun e w'=>e=.returned (.bool (l.any wBad))∧w'=w:=by
 have HC:Hid (Calls _ _ _ _ _):=wIdx_any a l cap w h hl
 clear h
 generalize l.any wBad=q at *
 go_enter Tryz.func171,Tryz.ntmps171
 go_wp2_with fail
 refine HC.out.mono ?_
 rintro e w' ⟨⟨r,rfl,hr⟩,hw⟩
 rw [hw];clear hw w'
 go_wp2
 go_ret
 refine ⟨?_,rfl⟩
 rw [← hr]
 rfl
theorem shBad_def (l:List Int):shBad l=if 40<l.length then 4 else if l.any wBad=true then 1 else if l.sum=0 then 6 else 0:=rfl
def weighV (l:List Int):Int:=if shBad l=0 then l.sum else 0
def shE (n:Int):Value:=if n=0 then .nilIface else .iface 51 (.int .i64 n)
set_option maxHeartbeats 2000000 in
theorem weigh_any (a:Option Addr) (l:List Int) (cap:Nat) (w:World) (h:IsW w a l cap) (hl:l.length≤9223372036854775807) :
  Calls Tryz.prog 143 #[.slice a l.length cap] w fun e w'=>e=.returned (.tuple #[.int .u64 (weighV l),shE (shBad l)])∧w'=w:=by
 have n0:(0:Int)≤l.length:=by omega
 have n1:(l.length:Int)≤9223372036854775807:=by omega
 by_cases h1:40<l.length
 ·have e1:shBad l=4:=by rw [shBad_def,if_pos h1]
  unfold weighV
  rw [e1]
  have h1':(40:Int)<l.length:=by omega
  clear h e1
  go_enter Tryz.func143,Tryz.ntmps143
  go_wp2
  go_ret2
  exact ⟨rfl,rfl⟩
 ·have HC:Hid (Calls _ _ _ _ _):=wHas_any a l cap w h (by omega)
  have h1':¬ (40:Int)<l.length:=by omega
  cases h2:l.any wBad
  ·rw [h2] at HC
   have hb:∀ z∈l,0≤z∧z≤1000000000:=fun z hz=>by
    have:=List.any_eq_false.1 h2 z hz
    unfold wBad at this
    simp only [decide_eq_true_eq] at this
    omega
   have e1:shBad l=if l.sum=0 then 6 else 0:=by rw [shBad_def,if_neg h1,h2];rfl
   have Hb:Hid (∀ k,k≤l.length→0≤(l.take k).sum∧(l.take k).sum≤40000000000):=fun k hk=>by
    refine ⟨sum_nonneg fun z hz=>(hb z (List.mem_of_mem_take hz)).1,?_⟩
    have:=sum_le (l:=l.take k) (M:=1000000000) fun z hz=>(hb z (List.mem_of_mem_take hz)).2
    rw [List.length_take] at this
    omega
   have Hx:Hid (∀ k,k<l.length→0≤l.getD k 0∧l.getD k 0≤1000000000):=fun k hk=>hb _ (w_mem l k hk)
   have Hc:Hid (∀ k,k<l.length→∃ b off,a=some ⟨b,off,none⟩∧b<w.heap.size∧w.cell? ⟨b,off+k,none⟩=some (.int .i64 (l.getD k 0))):=fun k hk=>h.at hk
   have He:Hid (shBad l=if l.sum=0 then 6 else 0):=e1
   clear h hb e1 h2
   go_enter Tryz.func143,Tryz.ntmps143
   go_wp2_with (go_at_call 171;refine HC.out.mono ?_;rintro e w' ⟨rfl,hw⟩;rw [hw];clear hw w')
   clear HC
   go_loop [4,16] (fun s i=>∃ k:Nat,k≤l.length∧i=.int .i64 k∧s=.int .u64 (l.take k).sum) (fun _ i=>l.length - (RowKit.intOf i).toNat)
   case atStart=>exact ⟨0,Nat.zero_le _,rfl,rfl⟩
   case round=>
    obtain ⟨k,hk,rfl,rfl⟩:=hrel
    by_cases hlt:k<l.length
    ·obtain ⟨b,off,rfl,hb,hc⟩:=Hc.out k hlt
     have Ht:Hid ((l.take (k+1)).sum=(l.take k).sum+l.getD k 0):=take_sum l k hlt
     obtain ⟨x0,x1⟩:=Hx.out k hlt
     obtain ⟨s0,s1⟩:=Hb.out k hk
     generalize l.getD k 0=x at *
     generalize (l.take k).sum=s at *
     have i0:(0:Int)≤k:=by omega
     have i1:(k:Int)<l.length:=by omega
     go_wp2
     go_round
     case rel=>exact ⟨k+1,by omega,by go_num,by rw [Ht.out]⟩
     case measure=>simp [RowKit.intOf];omega
    ·have hk2:k=l.length:=by omega
     subst hk2
     obtain ⟨s0,s1⟩:=Hb.out l.length (Nat.le_refl _)
     rw [List.take_length] at s0 s1 ⊢
     have HV:Hid (weighV l=if (if l.sum=0 then (6:Int) else 0)=0 then l.sum else 0):=by unfold Hid weighV;rw [He.out]
     have HW:Hid (shE (shBad l)=shE (if l.sum=0 then 6 else 0)):=by unfold Hid;rw [He.out]
     clear Hb Hx Hc He
     by_cases hs:l.sum=0
     ·rw [hs] at HV HW ⊢
      go_wp2
      go_ret2
      refine ⟨?_,rfl⟩
      rw [HV.out,HW.out]
      rfl
     ·have hs':(l.sum == 0)=false:=by simp [hs]
      rw [if_neg hs,if_pos rfl] at HV
      rw [if_neg hs] at HW
      generalize l.sum=s at *
      go_wp2
      go_ret2
      refine ⟨?_,rfl⟩
      rw [HV.out,HW.out]
      rfl
  ·rw [h2] at HC
   have e1:shBad l=1:=by rw [shBad_def,if_neg h1,h2];rfl
   unfold weighV
   rw [e1]
   clear h e1 h2
   go_enter Tryz.func143,Tryz.ntmps143
   go_wp2_with (go_at_call 171;refine HC.out.mono ?_;rintro e w' ⟨rfl,hw⟩;rw [hw];clear hw w')
   go_ret2
   exact ⟨rfl,rfl⟩
theorem part_any (T x A:Int) (w:World) (hT0:0≤T) (hT:T<18446744073709551616) (hx0:0≤x) (hx:x≤A) (hA:1≤A) (hA2:A<18446744073709551616) :
  Calls Tryz.prog 145 #[.int .u64 T,.int .u64 x,.int .u64 A] w fun e w'=>e=.returned (.tuple #[.int .u64 (T*x / A),.int .u64 (T*x % A)])∧∃ n,w'=w.drewN n:=by
 have hp0:0≤T*x:=Int.mul_nonneg hT0 hx0
 have hp1:T*x≤T*A:=Int.mul_le_mul_of_nonneg_left hx hT0
 have hp2:T*A<18446744073709551616*A:=Int.mul_lt_mul_of_pos_right hT (by omega)
 have hp3:T*x / 18446744073709551616<A:=Int.ediv_lt_of_lt_mul (by omega) (by rw [Int.mul_comm A];omega)
 have HM:Hid (Calls _ _ _ _ _):=mul64_any T x w hT0 hT hx0 (by omega)
 have HD:Hid (Calls _ _ _ _ _):=div64_any (T*x) A w hp0 hA hA2 hp3
 clear hp1 hp2 hp3
 generalize T*x=p at *
 go_enter Tryz.func145,Tryz.ntmps145
 go_wp2_with fail
 refine HM.out.mono ?_
 rintro e w' ⟨rfl,hw⟩
 rw [hw];clear hw w'
 go_wp2_with fail
 refine HD.out.mono ?_
 rintro e w' ⟨rfl,n,hw⟩
 rw [hw];clear hw w'
 go_wp2
 go_ret2
 exact ⟨rfl,n,rfl⟩
end Go.Proofs.YtjdjfpkjikdkoaaGreatDoor
namespace Go.Proofs.YtjdjfpkjikdkoaaGreatDoor
open Go.RowKit Go.Lib
def URow (w:World) (g:Nat) (r:List Int):Prop:=w.heap[g]? = some (.cells (r.map (Value.int .u64)).toArray 205 (0,0))
theorem URow.cell {w:World} {g:Nat} {r:List Int} (h:URow w g r) {i:Nat} (hi:i<r.length):w.cell? ⟨g,i,none⟩=some (.int .u64 (r.getD i 0)):=by
 unfold URow at h
 simp [World.cell?,h,List.getD_eq_getElem?_getD,List.getElem?_eq_getElem hi]
theorem URow.frozen {w:World} {g:Nat} {r:List Int} (h:URow w g r) (i:Nat):w.frozen? ⟨g,i,none⟩=false:=by
 unfold URow at h
 simp [World.frozen?,h]
theorem URow.lt {w:World} {g:Nat} {r:List Int} (h:URow w g r):g<w.heap.size:=(Array.getElem?_eq_some_iff.1 h).1
theorem URow.made (w:World) (n:Nat):URow (w.alloc (.cells (madeCells #[.int .u64 0] n) 205)) w.heap.size (List.replicate n 0):=by
 unfold URow
 rw [show (w.alloc (.cells (madeCells #[.int .u64 0] n) 205)).heap[w.heap.size]? = some (.cells (madeCells #[.int .u64 0] n) 205 (0,0)) by unfold World.alloc;simp only [Array.getElem?_push_size]]
 congr 2
 apply Array.ext
 ·simp [madeCells]
 ·intro i h1 h2
  simp [madeCells,Nat.mod_one]
theorem URow.below {w w':World} {g n:Nat} {r:List Int} (h:URow w g r) (hb:Below n w w') (hg:g<n):URow w' g r:=(hb.block g hg).trans h
theorem URow.alloc {w:World} {g:Nat} {r:List Int} (h:URow w g r) (o:Obj):URow (w.alloc o) g r:=h.below ((Below.refl w.heap.size w).alloc (Nat.le_refl _) o) h.lt
theorem URow.set {w:World} {g:Nat} {r:List Int} (h:URow w g r) (i:Nat) (x:Int):URow (w.setCell ⟨g,i,none⟩ (.int .u64 x)) g (r.set i x):=by
 unfold URow at *
 rw [setCell_eq_setRow w g i _ 205 (0,0) _ h,setRow_heap w g _ _ 205 (0,0) h]
 simp [List.map_set]
theorem URow.other {w:World} {g g':Nat} {r:List Int} (h:URow w g r) (hn:g≠g') (i:Nat) (v:Value):URow (w.setCell ⟨g',i,none⟩ v) g r:=(Below.heap_setCell _ _ _ _ hn).trans h
theorem take_sum_le {l:List Int} (h:∀ x∈l,0≤x) (k:Nat):(l.take k).sum≤l.sum:=by
 have e:l.sum=(l.take k).sum+(l.drop k).sum:=by rw [← List.sum_append,List.take_append_drop]
 have:=sum_nonneg (l:=l.drop k) fun x hx=>h x (List.mem_of_mem_drop hx)
 omega
theorem range_take (l:List Int) (k:Nat) (h:k≤l.length):(List.range k).map (fun i=>l.getD i 0)=l.take k:=by
 apply List.ext_getElem
 ·simp;omega
 ·intro i h1 h2
  have h3:i<l.length:=by simp at h1;omega
  simp [List.getD_eq_getElem?_getD,List.getElem?_eq_getElem h3]
def leftK (T:Int) (ws:List Int) (k:Nat):Int:=T - ((List.range k).map (fun i=>(partL T ws).getD i 0)).sum
theorem leftK_zero (T:Int) (ws:List Int):leftK T ws 0=T:=by simp [leftK]
theorem leftK_succ (T:Int) (ws:List Int) (k:Nat):leftK T ws (k+1)=leftK T ws k - (partL T ws).getD k 0:=by
 unfold leftK
 rw [List.range_succ,List.map_append,List.sum_append]
 simp only [List.map_cons,List.map_nil,List.sum_cons,List.sum_nil]
 omega
theorem leftK_all (T:Int) (ws:List Int):leftK T ws ws.length=leftI T ws:=by
 unfold leftK leftI
 have:=range_getD (partL T ws)
 rw [partL_len] at this
 rw [this]
theorem partL_nonneg {T:Int} {ws:List Int} (hT:0≤T) (h:GoodW ws):∀ x∈partL T ws,0≤x:=by
 intro x hx
 unfold partL at hx
 obtain ⟨y,hy,rfl⟩:=List.mem_map.1 hx
 exact Int.ediv_nonneg (Int.mul_nonneg hT (h.2.1 y hy).1) (by have:=h.2.2;omega)
theorem leftK_bd {T:Int} {ws:List Int} (hT:0≤T) (h:GoodW ws) (k:Nat) (hk:k≤ws.length):0≤leftK T ws k∧leftK T ws k≤T:=by
 unfold leftK
 rw [range_take _ _ (by rw [partL_len];exact hk)]
 have h1:=take_sum_le (partL_nonneg hT h) k
 have h2:=left_nonneg (T:=T) h
 have h3:=sum_nonneg (l:=(partL T ws).take k) fun x hx=>partL_nonneg hT h x (List.mem_of_mem_take hx)
 unfold leftI at h2
 omega
def rowK (T:Int) (ws:List Int) (s:List Nat) (k:Nat):List Int:=(List.range ws.length).map fun i=>(partL T ws).getD i 0+(if i∈s.take k then 1 else 0)
theorem rowK_len (T:Int) (ws:List Int) (s:List Nat) (k:Nat):(rowK T ws s k).length=ws.length:=by simp [rowK]
theorem rowK_at (T:Int) (ws:List Int) (s:List Nat) (k i:Nat) (h:i<ws.length):(rowK T ws s k).getD i 0=(partL T ws).getD i 0+(if i∈s.take k then 1 else 0):=by
 simp [rowK,List.getD_eq_getElem?_getD,h]
theorem rowK_zero (T:Int) (ws:List Int) (s:List Nat):rowK T ws s 0=partL T ws:=by
 unfold rowK
 have:=range_getD (partL T ws)
 rw [partL_len] at this
 conv=>rhs;rw [← this]
 apply List.map_congr_left
 intro i hi
 simp
theorem rowK_step (T:Int) (ws:List Int) (s:List Nat) (k:Nat) (hs:s.Nodup) (hk:k<s.length) (hb:s.getD k 0<ws.length):(rowK T ws s k).set (s.getD k 0) ((partL T ws).getD (s.getD k 0) 0+1)=rowK T ws s (k+1):=by
 have e:s.take (k+1)=s.take k++[s.getD k 0]:=take_one hk
 apply List.ext_getElem
 ·simp [rowK_len]
 ·intro i h1 h2
  have gk:∀ k (h:i<(rowK T ws s k).length),(rowK T ws s k)[i]'h=(partL T ws).getD i 0+(if i∈s.take k then 1 else 0):=fun k h=>by simp [rowK]
  rw [List.getElem_set,gk,gk,e]
  by_cases hi:s.getD k 0=i
  ·rw [if_pos hi,if_pos (by rw [← hi];simp),hi]
  ·rw [if_neg hi]
   congr 1
   have:i∈s.take k++[s.getD k 0]↔i∈s.take k:=by
    rw [List.mem_append,List.mem_singleton]
    constructor
    ·rintro (h | h)
     ·exact h
     ·exact absurd h.symm hi
    ·exact Or.inl
   simp only [this]
theorem not_ahead {s:List Nat} {k:Nat} (hs:s.Nodup) (hk:k<s.length):¬ s.getD k 0∈s.take k:=by
 intro h
 have e:s=s.take k++(s.getD k 0 :: s.drop (k+1)):=by rw [← drop_one hk,List.take_append_drop]
 generalize s.getD k 0=x at *
 rw [e] at hs
 exact (List.nodup_append.1 hs).2.2 x h x (by simp) rfl
theorem rowK_all {T:Int} {ws:List Int} (h:GoodW ws) {s:List Nat} (h1:s.Perm (List.range ws.length)) (h2:s.Pairwise (LT (cutL T ws))):rowK T ws s (leftI T ws).toNat=(List.range ws.length).map (grossI T ws):=by
 unfold rowK
 apply List.map_congr_left
 intro i hi
 unfold grossI moreI
 have h0:=left_nonneg (T:=T) h
 have:=take_rank (cut:=cutL T ws) (l:=s) (by rw [cutL_len];exact h1) h2 (i:=i) (by rw [cutL_len];exact List.mem_range.1 hi) (leftI T ws).toNat
 congr 1
 by_cases hr:rank (cutL T ws) i<(leftI T ws).toNat
 ·rw [if_pos (this.2 hr),if_pos (by omega)]
 ·rw [if_neg (fun e=>hr (this.1 e)),if_neg (by omega)]
def SharesEnd (t:Int) (ws:List Int) (w:World) (e:Ending) (w':World):Prop:=
 Below w.heap.size w w'∧(shBad ws≠0→e=.returned (.tuple #[.slice none 0 0,.iface 51 (.int .i64 (shBad ws))])) ∧
  (shBad ws=0→∃ g,w.heap.size≤g∧e=.returned (.tuple #[.slice (some ⟨g,0,none⟩) ws.length ws.length,.nilIface])∧NRow w' g ((List.range ws.length).map (shareI t ws)))
end Go.Proofs.YtjdjfpkjikdkoaaGreatDoor
namespace Go.Proofs.YtjdjfpkjikdkoaaGreatDoor
open Go.RowKit Go.Lib Math
structure Two1 (w W:World) (g:Nat) (P C:List Int):Prop where
 p:URow W g P
 c:URow W (g+1) C
 b:Below g w W
 s:W.heap.size=g+2
theorem Two1.drewN {w W:World} {g:Nat} {P C:List Int} (h:Two1 w W g P C) (n:Nat):Two1 w (W.drewN n) g P C:=⟨h.p,h.c,h.b.trans ⟨rfl,rfl,rfl,Nat.le_refl _,fun _ _=>rfl⟩,h.s⟩
theorem Two1.step {w W:World} {g:Nat} {P C:List Int} (h:Two1 w W g P C) (k:Nat) (x y:Int):Two1 w ((W.setCell ⟨g,k,none⟩ (.int .u64 x)).setCell ⟨g+1,k,none⟩ (.int .u64 y)) g (P.set k x) (C.set k y):=
 ⟨(h.p.set k x).other (by omega) k _,(h.c.other (by omega) k _).set k y,(h.b.setCell (p:=⟨g,k,none⟩) (Nat.le_refl _) _).setCell (p:=⟨g+1,k,none⟩) (Nat.le_succ _) _,by simp [World.setCell,h.s]⟩
theorem shares_bad (t:Int) (a:Option Addr) (ws:List Int) (cap:Nat) (w:World) (h:IsW w a ws cap) (hl:ws.length≤9223372036854775807) (hb:shBad ws≠0) :
  Calls Tryz.prog 106 #[.int .i64 t,.slice a ws.length cap] w (SharesEnd t ws w):=by
 have HC:Hid (Calls _ _ _ _ _):=weigh_any a ws cap w h hl
 have eE:shE (shBad ws)=.iface 51 (.int .i64 (shBad ws)):=by unfold shE;rw [if_neg hb]
 rw [eE] at HC
 have HE:Hid (SharesEnd t ws w (.returned (.tuple #[.slice none 0 0,.iface 51 (.int .i64 (shBad ws))])) w):=⟨Below.refl _ _,fun _=>rfl,fun e=>absurd e hb⟩
 generalize shBad ws=n at *
 clear h eE
 go_enter Tryz.func106,Tryz.ntmps106
 go_wp2_with fail
 refine HC.out.mono ?_
 rintro e w' ⟨rfl,hw⟩
 rw [hw];clear hw w'
 go_wp2
 go_ret2
 exact HE.out
set_option maxHeartbeats 8000000 in
theorem shares_good (t:Int) (a:Option Addr) (ws:List Int) (cap:Nat) (w:World) (h:IsW w a ws cap) (hb:shBad ws=0) (ht:I64 t) :
  Calls Tryz.prog 106 #[.int .i64 t,.slice a ws.length cap] w (SharesEnd t ws w):=by
 have hG:=shBad_zero hb
 have HG:Hid (GoodW ws):=hG
 have hT0:=sizeI_nonneg t
 obtain ⟨n,hn⟩:∃ n,ws.length=n:=⟨_,rfl⟩
 have hn40:n≤40:=hn▸hG.1
 have hn1:0<n:=by
  rcases Nat.eq_zero_or_pos n with e | e
  ·rw [e] at hn
   have h3:=hG.2.2
   rw [List.length_eq_zero_iff.1 hn] at h3
   simp at h3
  ·exact e
 have HCw:Hid (Calls _ _ _ _ _):=weigh_any a ws cap w h (by omega)
 have eV:weighV ws=ws.sum:=by unfold weighV;rw [if_pos hb]
 have eE:shE (shBad ws)=.nilIface:=by unfold shE;rw [if_pos hb]
 rw [eV,eE] at HCw
 have HSz:Hid (∀ W,Calls Tryz.prog 144 #[.int .i64 t] W fun e w'=>e=.returned (.int .u64 (sizeI t))∧w'=W):=fun W=>size_any t W ht.1 ht.2
 have hTt:sizeI t≤9223372036854775808:=by have:=ht.1;have:=ht.2;unfold sizeI;split <;> omega
 have hA1:=hG.2.2
 have hA2:ws.sum≤40000000000:=by
  have:=sum_le (l:=ws) (M:=1000000000) fun x hx=>(hG.2.1 x hx).2
  omega
 have Hw:Hid (∀ k,k<n→0≤ws.getD k 0∧ws.getD k 0≤1000000000∧ws.getD k 0≤ws.sum):=fun k hk=>by
  have hm:=w_mem ws k (by omega)
  exact ⟨(hG.2.1 _ hm).1,(hG.2.1 _ hm).2,mem_le_sum (fun x hx=>(hG.2.1 x hx).1) hm⟩
 obtain ⟨T,hT⟩:∃ T,sizeI t=T:=⟨_,rfl⟩
 have HT:Hid (sizeI t=T):=hT
 rw [hT] at hT0 HSz hTt
 obtain ⟨A,hA⟩:∃ A,ws.sum=A:=⟨_,rfl⟩
 have HA:Hid (ws.sum=A):=hA
 rw [hA] at hA1 hA2 HCw Hw
 have HPt:Hid (∀ k W,k<n→Calls Tryz.prog 145 #[.int .u64 T,.int .u64 (ws.getD k 0),.int .u64 A] W fun e w'=>e=.returned (.tuple #[.int .u64 ((partL T ws).getD k 0),.int .u64 ((cutL T ws).getD k 0)])∧∃ n,w'=W.drewN n):=fun k W hk=>by
  obtain ⟨x0,x1,x2⟩:=Hw.out k hk
  have:=part_any T (ws.getD k 0) A W hT0 (by omega) x0 x2 (by omega) (by omega)
  rw [partL_at T ws (by omega),cutL_at T ws (by omega),hA]
  exact this
 have HL:Hid (∀ k,k≤n→0≤leftK T ws k∧leftK T ws k≤T):=fun k hk=>leftK_bd hT0 hG k (by omega)
 have HLs:Hid (∀ k,leftK T ws (k+1)=leftK T ws k - (partL T ws).getD k 0):=fun k=>leftK_succ T ws k
 have HP0:Hid (∀ k,k<n→0≤(partL T ws).getD k 0∧(partL T ws).getD k 0≤T):=fun k hk=>by
  have h1:=part_nonneg' hT0 hG (i:=k) (by omega)
  have h2:=leftK_bd hT0 hG k (by omega)
  have h3:=leftK_bd hT0 hG (k+1) (by omega)
  rw [leftK_succ] at h3
  omega
 have Hc:Hid (∀ W,Below w.heap.size w W→∀ k,k<n→∃ b off,a=some ⟨b,off,none⟩∧b<w.heap.size∧W.cell? ⟨b,off+k,none⟩=some (.int .i64 (ws.getD k 0))):=fun W hW k hk=>by
  obtain ⟨b,off,e,hlt,hc⟩:=h.at (k:=k) (by omega)
  exact ⟨b,off,e,hlt,(hW.cell (p:=⟨b,off+k,none⟩) hlt).trans hc⟩
 have hmk:=fun w=>run_make_row' (P:=Tryz.prog) 214 205 (.int .u64 0) 8 Tryz.underlying214 srt_u64 rfl .i64 .i64 n (by omega) (by omega) w
 have hmi:=fun w=>run_make_row' (P:=Tryz.prog) 27 3 (.int .i64 0) 8 Tryz.underlying27 srt_int rfl .i64 .i64 n (by omega) (by omega) w
 have H2:Hid (Two1 w ((w.alloc (.cells (madeCells #[.int .u64 0] n) 205)).alloc (.cells (madeCells #[.int .u64 0] n) 205)) w.heap.size (List.replicate n 0) (List.replicate n 0)):=by
  refine ⟨(URow.made w n).alloc _,?_,((Below.refl _ w).alloc (Nat.le_refl _) _).alloc (by simp) _,by simp⟩
  have:=URow.made (w.alloc (.cells (madeCells #[.int .u64 0] n) 205)) n
  rw [show (w.alloc (.cells (madeCells #[.int .u64 0] n) 205)).heap.size=w.heap.size+1 by simp] at this
  exact this
 have HBy:Hid (∀ W,Two1 w W w.heap.size (partL T ws) (cutL T ws)→Calls Tryz.prog 146 #[.slice (some ⟨w.heap.size+1,0,none⟩) n n] W fun e w'=>e=.returned (.slice (some ⟨w.heap.size+3,0,none⟩) n n)∧Hid (∃ s:List Nat,s.Perm (List.range n)∧s.Pairwise (LT (cutL T ws))∧NRow w' (w.heap.size+3) (toI s)∧URow w' w.heap.size (rowK T ws s 0)∧Below w.heap.size w w')):=fun W hW=>by
  have hcl:(cutL T ws).length=n:=by rw [cutL_len];exact hn
  have c:=byCut_any (w.heap.size+1) n (cutL T ws) W (by have:=hW.s;omega) (fun i hi=>hW.c.cell hi) (by omega) (by omega)
  rw [hcl,hW.s] at c
  refine c.mono ?_
  rintro e w' ⟨rfl,hh⟩
  obtain ⟨hbl,s,p1,p2,p3⟩:=hh.out
  exact ⟨rfl,s,p1,p2,p3,by rw [rowK_zero];exact hW.p.below hbl (by omega),hW.b.trans (hbl.mono (by omega))⟩
 have HEnd:Hid (∀ g W,w.heap.size≤g→Below w.heap.size w W→NRow W g ((List.range n).map (shareI t ws))→SharesEnd t ws w (.returned (.tuple #[.slice (some ⟨g,0,none⟩) n n,.nilIface])) W):=fun g W h1 h2 h3=>⟨h2,fun e=>absurd hb e,fun _=>⟨g,h1,by rw [hn],by rw [hn];exact h3⟩⟩
 have HAll:Hid (∀ s:List Nat,s.Perm (List.range n)→s.Pairwise (LT (cutL T ws))→rowK T ws s (leftI T ws).toNat=(List.range n).map (grossI T ws)):=fun s h1 h2=>by
  rw [← hn];rw [← hn] at h1
  exact rowK_all hG h1 h2
 have HKa:Hid (leftK T ws n=((leftI T ws).toNat:Nat)∧(leftI T ws).toNat≤n):=by
  have h1:=leftK_all T ws
  rw [hn] at h1
  have h2:=left_nonneg (T:=T) hG
  have h3:=left_le (T:=T) hG
  refine ⟨by rw [h1];omega,by omega⟩
 have HRow0:Hid ((List.range n).map (fun i=>(partL T ws).getD i 0)=partL T ws∧(List.range n).map (fun i=>(cutL T ws).getD i 0)=cutL T ws):=by
  have h1:=range_getD (partL T ws)
  have h2:=range_getD (cutL T ws)
  rw [partL_len,hn] at h1
  rw [cutL_len,hn] at h2
  exact ⟨h1,h2⟩
 have HLen:Hid (ws.length=n):=hn
 have HGr:Hid (∀ k,k<n→0≤grossI T ws k∧grossI T ws k≤T):=fun k hk=>⟨gross_nonneg hT0 hG (by omega),gross_le hT0 hG (by omega)⟩
 have HSg:Hid (∀ k W,k<n→Calls Tryz.prog 147 #[.int .u64 (grossI T ws k),.bool (decide (t<0))] W fun e w'=>e=.returned (.int .i64 (shareI t ws k))∧w'=W):=fun k W hk=>by
  obtain ⟨g0,g1⟩:=HGr.out k hk
  rw [share_gross,hT]
  have h1:=ht.1
  have h2:=ht.2
  by_cases hneg:t<0
  ·rw [decide_eq_true hneg,if_pos hneg]
   exact withSign_yes _ W g0 (by omega)
  ·rw [decide_eq_false hneg,if_neg hneg]
   refine withSign_no _ W g0 ?_
   unfold sizeI at hT
   rw [if_neg hneg] at hT
   omega
 have n0:(0:Int)<n:=by omega
 have n1:(n:Int)≤40:=by omega
 obtain ⟨g,hg⟩:∃ g,w.heap.size=g:=⟨_,rfl⟩
 rw [hn]
 rw [hn] at HCw
 rw [hg] at H2 HBy HEnd Hc
 clear h hb hG eV eE hn hA hT HG
 go_enter Tryz.func106,Tryz.ntmps106
 go_wp2_with (first | (go_at_call 143;refine HCw.out.mono ?_;rintro e w' ⟨rfl,hw⟩;rw [hw];clear hw w') | (go_at_call 144;refine (HSz.out _).mono ?_;rintro e w' ⟨rfl,hw⟩;rw [hw];clear hw w'))
 clear hmk
 obtain ⟨wB,hwB⟩:∃ wB,(w.alloc (.cells (madeCells #[.int .u64 0] n) 205)).alloc (.cells (madeCells #[.int .u64 0] n) 205)=wB:=⟨_,rfl⟩
 rw [hwB] at H2 ⊢
 clear hwB
 go_loopw [10,36] (fun lf i wr=>∃ k:Nat,k≤n∧i=.int .i64 k∧lf=.int .u64 (leftK T ws k)∧Hid (Two1 w wr g ((List.range k).map (fun i=>(partL T ws).getD i 0)++List.replicate (n - k) 0) ((List.range k).map (fun i=>(cutL T ws).getD i 0)++List.replicate (n - k) 0))) (fun _ i _=>n - (RowKit.intOf i).toNat)
 case atStart=>exact ⟨0,Nat.zero_le _,rfl,by rw [leftK_zero],by unfold Hid;simpa using H2.out⟩
 case round=>
  obtain ⟨k,hk,rfl,rfl,H⟩:=hrel
  by_cases hlt:k<n
  ·obtain ⟨b,off,rfl,hb,hc⟩:=Hc.out wr H.out.b k hlt
   have HPk:Hid (∀ W,Calls _ _ _ W _):=fun W=>HPt.out k W hlt
   have HLk:=HLs.out k
   obtain ⟨x0,x1,x2⟩:=Hw.out k hlt
   obtain ⟨p0,p1⟩:=HP0.out k hlt
   obtain ⟨l0,l1⟩:=HL.out k hk
   have l2:=(HL.out (k+1) hlt).1
   rw [HLk] at l2
   have i0:(0:Int)≤k:=by omega
   have i1:(k:Int)<n:=by omega
   have HLk':Hid (leftK T ws (k+1)=leftK T ws k - (partL T ws).getD k 0):=HLk
   have HS:Hid (∀ m,Two1 w (((wr.drewN m).setCell ⟨g,k,none⟩ (.int .u64 ((partL T ws).getD k 0))).setCell ⟨g+1,k,none⟩ (.int .u64 ((cutL T ws).getD k 0))) g ((List.range (k+1)).map (fun i=>(partL T ws).getD i 0)++List.replicate (n - (k+1)) 0) ((List.range (k+1)).map (fun i=>(cutL T ws).getD i 0)++List.replicate (n - (k+1)) 0)):=fun m=>by
    have:=(H.out.drewN m).step k ((partL T ws).getD k 0) ((cutL T ws).getD k 0)
    rw [srow_step (fun i=>(partL T ws).getD i 0) n k hlt,srow_step (fun i=>(cutL T ws).getD i 0) n k hlt] at this
    exact this
   have hrl:∀ f:Nat→Int,((List.range k).map f++List.replicate (n - k) 0).length=n:=fun f=>by simp;omega
   have Hc1:Hid (∀ m,(∃ z,(wr.drewN m).cell? ⟨g,k,none⟩=some (.int .u64 z))∧(wr.drewN m).frozen? ⟨g,k,none⟩=false):=fun m=>⟨⟨_,(H.out.drewN m).p.cell (by rw [hrl];exact hlt)⟩,(H.out.drewN m).p.frozen k⟩
   have Hc2:Hid (∀ m x,(∃ z,((wr.drewN m).setCell ⟨g,k,none⟩ (.int .u64 x)).cell? ⟨g+1,k,none⟩=some (.int .u64 z))∧((wr.drewN m).setCell ⟨g,k,none⟩ (.int .u64 x)).frozen? ⟨g+1,k,none⟩=false):=fun m x=>by
    have:=(H.out.drewN m).c.other (g':=g) (by omega) k (.int .u64 x)
    exact ⟨⟨_,this.cell (by rw [hrl];exact hlt)⟩,this.frozen k⟩
   have Hc3:Hid (∀ m x y,(((wr.drewN m).setCell ⟨g,k,none⟩ (.int .u64 x)).setCell ⟨g+1,k,none⟩ (.int .u64 y)).cell? ⟨g,k,none⟩=some (.int .u64 x)):=fun m x y=>by
    have:=((H.out.drewN m).step k x y).p.cell (i:=k) (by rw [List.length_set,hrl];exact hlt)
    rw [List.getD_eq_getElem?_getD,List.getElem?_set_self (by rw [hrl];exact hlt)] at this
    exact this
   clear H HLk hrl
   generalize (partL T ws).getD k 0=P at *
   generalize (cutL T ws).getD k 0=C at *
   generalize leftK T ws k=Lk at *
   generalize ws.getD k 0=x at *
   go_wp2_with fail
   refine (HSz.out _).mono ?_
   rintro e w' ⟨rfl,hw⟩
   rw [hw];clear hw w'
   go_wp2_with fail
   go_at_call 145
   refine (HPk.out _).mono ?_
   rintro e w' ⟨rfl,m,hw⟩
   rw [hw];clear hw w'
   have HS1:=HS.out m
   obtain ⟨⟨z1,c1⟩,f1⟩:=Hc1.out m
   obtain ⟨⟨z2,c2⟩,f2⟩:=Hc2.out m P
   have c3:=Hc3.out m P C
   have HS2:Hid (Two1 _ _ _ _ _):=HS1
   clear HS HS1 Hc1 Hc2 Hc3
   obtain ⟨W1,hW1⟩:∃ W1,wr.drewN m=W1:=⟨_,rfl⟩
   rw [hW1] at c1 f1 c2 f2 c3 HS2 ⊢
   clear hW1 hc
   go_wp2
   go_roundw
   case rel=>exact ⟨k+1,by omega,by go_num,by rw [HLk'.out],HS2⟩
   case measure=>simp [RowKit.intOf];omega
  ·have ek:k=n:=by omega
   subst ek
   have HB2:Hid (Calls _ _ _ wr _):=HBy.out wr (by
    have h1:=H.out
    rw [Nat.sub_self,List.replicate_zero,List.append_nil,List.append_nil,HRow0.out.1,HRow0.out.2] at h1
    exact h1)
   obtain ⟨eL,hLn⟩:=HKa.out
   obtain ⟨Lf,hLf⟩:∃ Lf,(leftI T ws).toNat=Lf:=⟨_,rfl⟩
   rw [hLf] at eL hLn HAll
   rw [eL]
   have l0:(0:Int)≤Lf:=by omega
   have l1:(Lf:Int)≤k:=by omega
   have k1:¬ (k:Int)<k:=by omega
   clear H HBy HKa hLf H2
   go_wp2_with fail
   refine HB2.out.mono ?_
   rintro e wS ⟨rfl,hh⟩
   obtain ⟨s,s1,s2,s3,s4,s5⟩:=hh.out
   clear HB2 hh
   have sl:s.length=k:=by rw [s1.length_eq,List.length_range]
   have HAl:Hid (rowK T ws s Lf=(List.range k).map (grossI T ws)):=HAll.out s s1 s2
   have Hsb:Hid (∀ q,q<k→s.getD q 0<k):=fun q hq=>List.mem_range.1 (s1.mem_iff.1 (getD_mem0 (by omega)))
   have hnd:s.Nodup:=s1.symm.nodup List.nodup_range
   have Hst:Hid (∀ q,q<k→(rowK T ws s q).set (s.getD q 0) ((partL T ws).getD (s.getD q 0) 0+1)=rowK T ws s (q+1)):=fun q hq=>rowK_step T ws s q hnd (by omega) (by rw [HLen.out];exact Hsb.out q hq)
   have Hat:Hid (∀ q,q<k→(rowK T ws s q).getD (s.getD q 0) 0=(partL T ws).getD (s.getD q 0) 0):=fun q hq=>by
    rw [rowK_at T ws s q _ (by rw [HLen.out];exact Hsb.out q hq),if_neg (not_ahead hnd (by omega))]
    omega
   have Hrow:Hid (NRow wS (g+3) (toI s)∧URow wS g (rowK T ws s 0)∧Below g w wS):=⟨s3,s4,s5⟩
   have Hsl:Hid (s.length=k):=sl
   have Htoi:Hid (∀ q,q<k→(toI s).getD q 0=((s.getD q 0:Nat):Int)):=fun q hq=>by
    simp [toI,List.getD_eq_getElem?_getD,List.getElem?_map,List.getElem?_eq_getElem (show q<s.length by omega)]
   clear s1 s2 s3 s4 s5 sl HAll hnd
   go_wp2
   go_loopw [68] (fun i wr=>∃ q:Nat,q≤Lf∧i=.int .i64 q∧Hid (NRow wr (g+3) (toI s)∧URow wr g (rowK T ws s q)∧Below g w wr)) (fun i _=>Lf - (RowKit.intOf i).toNat)
   case atStart=>exact ⟨0,Nat.zero_le _,rfl,Hrow⟩
   case round=>
    rename World=>wq
    obtain ⟨q,hq,rfl,H⟩:=hrel
    by_cases hlt:q<Lf
    ·obtain ⟨r1,r2,r3⟩:=H.out
     have hqk:q<k:=by omega
     have cs:=r1.cell (i:=q) (by rw [toI_len,Hsl.out];exact hqk)
     rw [Htoi.out q hqk] at cs
     have hb:=Hsb.out q hqk
     have cp:=r2.cell (i:=s.getD q 0) (by rw [rowK_len,HLen.out];exact hb)
     have fp:=r2.frozen (s.getD q 0)
     rw [Hat.out q hqk] at cp
     have hst:=Hst.out q hqk
     have R2:=r2.set (s.getD q 0) ((partL T ws).getD (s.getD q 0) 0+1)
     rw [hst] at R2
     obtain ⟨p0,p1⟩:=HP0.out _ hb
     have HN:Hid (NRow (wq.setCell ⟨g,s.getD q 0,none⟩ (.int .u64 ((partL T ws).getD (s.getD q 0) 0+1))) (g+3) (toI s)∧URow (wq.setCell ⟨g,s.getD q 0,none⟩ (.int .u64 ((partL T ws).getD (s.getD q 0) 0+1))) g (rowK T ws s (q+1))∧Below g w (wq.setCell ⟨g,s.getD q 0,none⟩ (.int .u64 ((partL T ws).getD (s.getD q 0) 0+1)))):=⟨r1.other (by omega) _ _,R2,r3.setCell (p:=⟨g,s.getD q 0,none⟩) (Nat.le_refl _) _⟩
     have b0:(0:Int)≤(s.getD q 0:Nat):=by omega
     have b1:((s.getD q 0:Nat):Int)<k:=by omega
     have q0:(0:Int)≤q:=by omega
     have q1:(q:Int)<Lf:=by omega
     clear H r1 r2 r3 R2 hst
     generalize (partL T ws).getD (s.getD q 0) 0=P at *
     generalize s.getD q 0=j at *
     go_wp2
     go_roundw
     case rel=>exact ⟨q+1,by omega,by go_num,HN⟩
     case measure=>simp [RowKit.intOf];omega
    ·have ek:q=Lf:=by omega
     subst ek
     obtain ⟨r1,r2,r3⟩:=H.out
     rw [HAl.out] at r2
     have q1:¬ (q:Int)<q:=by omega
     have Hm:Hid (NRow (wq.alloc (.cells (madeCells #[.int .i64 0] k) 3)) wq.heap.size (List.replicate k 0)∧URow (wq.alloc (.cells (madeCells #[.int .i64 0] k) 3)) g ((List.range k).map (grossI T ws))∧Below g w (wq.alloc (.cells (madeCells #[.int .i64 0] k) 3))):=⟨nrow_made wq k,r2.alloc _,r3.alloc (by have:=r2.lt;omega) _⟩
     have hgm:g<wq.heap.size:=r2.lt
     clear H r1 r2 r3 HAl Hsb Hst Hat Hrow Htoi
     go_wp2
     obtain ⟨wC,hwC⟩:∃ wC,wq.alloc (.cells (madeCells #[.int .i64 0] k) 3)=wC:=⟨_,rfl⟩
     rw [hwC] at Hm ⊢
     obtain ⟨gm,hgm2⟩:∃ gm,wq.heap.size=gm:=⟨_,rfl⟩
     rw [hgm2] at Hm hgm ⊢
     clear hwC hmi
     go_loopw [84] (fun i wr=>∃ q:Nat,q≤k∧i=.int .i64 q∧Hid (NRow wr gm ((List.range q).map (shareI t ws)++List.replicate (k - q) 0)∧URow wr g ((List.range k).map (grossI T ws))∧Below g w wr)) (fun i _=>k - (RowKit.intOf i).toNat)
     case atStart=>exact ⟨0,Nat.zero_le _,rfl,by unfold Hid;simpa using Hm.out⟩
     case round=>
      rename World=>wv
      obtain ⟨q',hq',rfl,H⟩:=hrel
      by_cases hlt:q'<k
      ·obtain ⟨r1,r2,r3⟩:=H.out
       have cg:=r2.cell (i:=q') (by simp;exact hlt)
       rw [show ((List.range k).map (grossI T ws)).getD q' 0=grossI T ws q' by simp [List.getD_eq_getElem?_getD,hlt]] at cg
       have hrl:((List.range q').map (shareI t ws)++List.replicate (k - q') 0).length=k:=by simp;omega
       have cs:=r1.cell (i:=q') (by rw [hrl];exact hlt)
       have fs:=r1.frozen q'
       have R1:=r1.set q' (shareI t ws q')
       rw [srow_step (shareI t ws) k q' hlt] at R1
       have HSk:Hid (Calls _ _ _ wv _):=HSg.out q' wv hlt
       have HN:Hid (NRow (wv.setCell ⟨gm,q',none⟩ (.int .i64 (shareI t ws q'))) gm ((List.range (q'+1)).map (shareI t ws)++List.replicate (k - (q'+1)) 0)∧URow (wv.setCell ⟨gm,q',none⟩ (.int .i64 (shareI t ws q'))) g ((List.range k).map (grossI T ws))∧Below g w (wv.setCell ⟨gm,q',none⟩ (.int .i64 (shareI t ws q')))):=⟨R1,r2.other (by omega) _ _,r3.setCell (p:=⟨gm,q',none⟩) (by simp;omega) _⟩
       obtain ⟨g0,g1⟩:=HGr.out q' hlt
       have i0:(0:Int)≤q':=by omega
       have i1:(q':Int)<k:=by omega
       generalize ((List.range q').map (shareI t ws)++List.replicate (k - q') 0).getD q' 0=z at cs
       clear H r1 r2 r3 R1 hrl
       generalize grossI T ws q'=G at *
       generalize shareI t ws q'=V at *
       go_wp2_with fail
       refine HSk.out.mono ?_
       rintro e w' ⟨rfl,hw⟩
       rw [hw];clear hw w'
       go_wp2
       go_roundw
       case rel=>exact ⟨q'+1,by omega,by go_num,HN⟩
       case measure=>simp [RowKit.intOf];omega
      ·have ek:q'=k:=by omega
       subst ek
       obtain ⟨r1,r2,r3⟩:=H.out
       rw [Nat.sub_self,List.replicate_zero,List.append_nil] at r1
       have HE:Hid (SharesEnd _ _ _ _ _):=HEnd.out gm wv (by omega) r3 r1
       have i1:¬ (q':Int)<q':=by omega
       clear H r1 r2 r3
       go_wp2
       go_ret2
       exact HE.out
theorem shares_any (t:Int) (a:Option Addr) (ws:List Int) (cap:Nat) (w:World) (h:IsW w a ws cap) (hl:ws.length≤9223372036854775807) (ht:I64 t) :
  Calls Tryz.prog 106 #[.int .i64 t,.slice a ws.length cap] w (SharesEnd t ws w):=by
 by_cases hb:shBad ws=0
 ·exact shares_good t a ws cap w h hb ht
 ·exact shares_bad t a ws cap w h hl hb
end Go.Proofs.YtjdjfpkjikdkoaaGreatDoor
namespace Go.Proofs.YtjdjfpkjikdkoaaGreatDoor
open Go.RowKit Go.Lib Math
end Go.Proofs.YtjdjfpkjikdkoaaGreatDoor
namespace Go.Proofs.YtjdjfpkjikdkoaaGreatDoor
open Go.RowKit Go.Lib
structure Po where
 acc:ByteArray
 cur:ByteArray
 tA:Option Addr
 tC:Nat
 tos:List ByteArray
 wA:Option Addr
 wC:Nat
 ws:List Int
def po0:Po:=⟨ByteArray.empty,ByteArray.empty,none,0,[],none,0,[]⟩
def Po.cells (p:Po):Array Value:=#[.string p.acc,.string p.cur,.slice p.tA p.tos.length p.tC,.slice p.wA p.ws.length p.wC]
structure PoOk (w:World) (p:Po):Prop where
 tx:IsTx w p.tA p.tos p.tC
 iw:IsW w p.wA p.ws p.wC
 lt:p.tos.length≤9223372036854775807
 lw:p.ws.length≤9223372036854775807
theorem PoOk.below {w w':World} {p:Po} (h:PoOk w p) (hb:Below w.heap.size w w'):PoOk w' p:=⟨h.tx.below hb,h.iw.below hb,h.lt,h.lw⟩
structure PoAt (w:World) (b off:Nat) (p:Po):Prop where
 c0:w.cell? ⟨b,off,none⟩=some (.string p.acc)
 c1:w.cell? ⟨b,off+1,none⟩=some (.string p.cur)
 c2:w.cell? ⟨b,off+2,none⟩=some (.slice p.tA p.tos.length p.tC)
 c3:w.cell? ⟨b,off+3,none⟩=some (.slice p.wA p.ws.length p.wC)
theorem PoAt.below {w w':World} {b off n:Nat} {p:Po} (h:PoAt w b off p) (hb:Below n w w') (hn:b<n):PoAt w' b off p:=
 ⟨(hb.cell (p:=⟨b,off,none⟩) hn).trans h.c0,(hb.cell (p:=⟨b,off+1,none⟩) hn).trans h.c1,(hb.cell (p:=⟨b,off+2,none⟩) hn).trans h.c2,(hb.cell (p:=⟨b,off+3,none⟩) hn).trans h.c3⟩
theorem PoAt.new (w:World) (p:Po) (t:TypeId):PoAt (w.alloc (.cells p.cells t)) w.heap.size 0 p:=
 ⟨by simp [Po.cells],by simp [Po.cells],by simp [Po.cells],by simp [Po.cells]⟩
structure IsPs (w:World) (a:Option Addr) (l:List Po) (cap:Nat):Prop where
 cap:l.length≤cap
 lies:l=[]∨∃ b off,a=some ⟨b,off,none⟩∧b<w.heap.size∧∀ k,k<l.length→PoAt w b (off+k*4) (l.getD k po0)
 ok:∀ p∈l,PoOk w p
theorem IsPs.below {w w':World} {a:Option Addr} {l:List Po} {cap:Nat} (h:IsPs w a l cap) (hb:Below w.heap.size w w'):IsPs w' a l cap:=by
 refine ⟨h.cap,?_,fun p hp=>(h.ok p hp).below hb⟩
 rcases h.lies with h | ⟨b,off,e,hlt,hc⟩
 ·exact .inl h
 ·exact .inr ⟨b,off,e,by have:=hb.size;omega,fun k hk=>(hc k hk).below hb hlt⟩
theorem IsPs.at {w:World} {a:Option Addr} {l:List Po} {cap:Nat} (h:IsPs w a l cap) {k:Nat} (hk:k<l.length):∃ b off,a=some ⟨b,off,none⟩∧b<w.heap.size∧PoAt w b (off+k*4) (l.getD k po0)∧PoOk w (l.getD k po0):=by
 rcases h.lies with rfl | ⟨b,off,e,hlt,hc⟩
 ·simp at hk
 ·refine ⟨b,off,e,hlt,hc k hk,h.ok _ ?_⟩
  rw [List.getD_eq_getElem?_getD,List.getElem?_eq_getElem hk]
  exact List.getElem_mem hk
structure PoTx (p:Po):Prop where
 acc:p.acc.size≤maxLen
 cur:p.cur.size≤maxLen
 tos:∀ t∈p.tos,t.size≤maxLen
def toBad (c:List Ac) (acc:ByteArray) (l:List ByteArray) (k:Nat):Int:=
 if leafBad c (l.getD k ByteArray.empty)≠0 then leafBad c (l.getD k ByteArray.empty)
 else if l.getD k ByteArray.empty=acc∨memB (l.getD k ByteArray.empty) (l.take k)=true then 8 else 0
def poBad (c:List Ac) (p:Po):Int:=
 if leafBad c p.acc≠0 then leafBad c p.acc
 else if isCur p.cur=false then 2
 else if p.tos.length=0∨p.tos.length≠p.ws.length then 3
 else if 19<p.tos.length then 4
 else if firstTo (toBad c p.acc p.tos) p.tos.length≠0 then firstTo (toBad c p.acc p.tos) p.tos.length
 else shBad p.ws
def psBad (c:List Ac) (l:List Po):Int:=
 if chBad c≠0 then chBad c else if 20<l.length then 4 else firstTo (fun k=>poBad c (l.getD k po0)) l.length
theorem shares_err (ws:List Int) (a:Option Addr) (cap:Nat) (w:World) (h:IsW w a ws cap) (hl:ws.length≤9223372036854775807) :
  Calls Tryz.prog 106 #[.int .i64 0,.slice a ws.length cap] w fun e w'=>(∃ v,e=.returned (.tuple #[v,chE (shBad ws)]))∧Below w.heap.size w w':=by
 refine (shares_any 0 a ws cap w h hl ⟨by decide,by decide⟩).mono ?_
 rintro e w' ⟨hb,h1,h2⟩
 refine ⟨?_,hb⟩
 by_cases h0:shBad ws=0
 ·obtain ⟨g,_,rfl,_⟩:=h2 h0
  exact ⟨_,by rw [h0,chE_zero]⟩
 ·exact ⟨_,by rw [h1 h0,chE_ne h0]⟩
set_option maxHeartbeats 8000000 in
theorem checkPool_any (c:List Ac) (p:Po) (B1 B2:Nat) (w:World) (hL:Lfs w B1 B2 c) (hp:PoOk w p) :
  Calls Tryz.prog 60 #[.agg p.cells,.func (.func 37) #[] #[.pointer (some ⟨B1,0,none⟩),.pointer (some ⟨B2,0,none⟩)]] w fun e w'=>e=.returned (chE (poBad c p))∧Below w.heap.size w w':=by
 have eg:∀ args W,(callFunc 37 args).run Tryz.prog W=.ok (.enter 37 args) W:=fun args W=>enters Tryz.func37 (by kernel_rfl) ⟨_,rfl⟩ args W
 obtain ⟨B,hB⟩:∃ B,w.heap.size=B:=⟨_,rfl⟩
 obtain ⟨w0,hw0⟩:∃ w0,w.alloc (.cells p.cells 82)=w0:=⟨_,rfl⟩
 have B0:Below w.heap.size w w0:=by rw [← hw0];exact (Below.refl _ w).alloc (Nat.le_refl _) _
 have HA:Hid (∀ W,Below w0.heap.size w0 W→PoAt W B 0 p∧PoOk W p∧Below w.heap.size w W):=fun W hW=>by
  have hs:w.heap.size<w0.heap.size:=by rw [← hw0];simp
  exact ⟨hB▸(by rw [← hw0];exact PoAt.new w p _:PoAt w0 w.heap.size 0 p).below hW hs,(hp.below B0).below hW,B0.trans (hW.mono (by omega))⟩
 have HLf:Hid (∀ code W,Below w0.heap.size w0 W→Calls Tryz.prog 37 #[.string code,.pointer (some ⟨B1,0,none⟩),.pointer (some ⟨B2,0,none⟩)] W fun e w'=>e=.returned (chE (leafBad c code))∧Below w0.heap.size w0 w'):=fun code W hW=>by
  refine (leaf1_any c code B1 B2 W ((hL.below B0).below hW)).mono ?_
  rintro e w' ⟨rfl,hb⟩
  exact ⟨rfl,hW.trans (hb.mono hW.size)⟩
 have HCu:Hid (∀ W,Below w0.heap.size w0 W→Calls Tryz.prog 15 #[.string p.cur] W fun e w'=>e=.returned (.bool (isCur p.cur))∧Below w0.heap.size w0 w'):=fun W hW=>by
  refine (cur_any p.cur W).mono ?_
  rintro e w' ⟨rfl,hb⟩
  exact ⟨rfl,hW.trans (hb.mono hW.size)⟩
 have HSh:Hid (∀ W,Below w0.heap.size w0 W→Calls Tryz.prog 106 #[.int .i64 0,.slice p.wA p.ws.length p.wC] W fun e w'=>(∃ v,e=.returned (.tuple #[v,chE (shBad p.ws)]))∧Below w0.heap.size w0 w'):=fun W hW=>by
  refine (shares_err p.ws p.wA p.wC W ((hp.below B0).below hW).iw hp.lw).mono ?_
  rintro e w' ⟨he,hb⟩
  exact ⟨he,hW.trans (hb.mono hW.size)⟩
 have HCo:Hid (∀ k W,Below w0.heap.size w0 W→p.tos.length≤19→k≤p.tos.length→∀ code,Calls Tryz.prog 39 #[.slice p.tA k p.tC,.string code] W fun e w'=>e=.returned (.bool (memB code (p.tos.take k)))∧w'=W):=fun k W hW h19 hk code=>by
  have:=txContains_any p.tA p.tC (p.tos.take k) code W (by simp;omega) (((hp.below B0).below hW).tx.take k)
  rw [List.length_take,Nat.min_eq_left hk] at this
  exact this
 obtain ⟨res,hres⟩:∃ res,chE (poBad c p)=res:=⟨_,rfl⟩
 have Hres:Hid (chE (poBad c p)=res):=hres
 rw [hres]
 have hlt:=hp.lt
 have hlw:=hp.lw
 have hcap:p.tos.length≤p.tC:=hp.tx.cap
 clear hres hL hp
 have HW0:Hid (w.alloc (.cells p.cells 82)=w0):=hw0
 clear hw0
 obtain ⟨acc,cur,tA,tC,tos,wA,wC,ws⟩:=p
 simp only [Po.cells] at HW0 HA HLf HCu HSh HCo hlt hlw hcap ⊢
 have HF:=HLf.out acc w0 (Below.refl _ _)
 obtain ⟨⟨d0,d1,d2,d3⟩,_,_⟩:=HA.out w0 (Below.refl _ _)
 simp only [Nat.zero_add] at d0 d1 d2 d3
 have HFH:Hid (Calls _ _ _ _ _):=HF
 clear HF
 by_cases c1:leafBad c acc≠0
 ·have er:res=chE (leafBad c acc):=by rw [← Hres.out];unfold poBad;simp only;rw [if_pos c1]
  rw [chE_ne c1] at HFH er
  subst er
  clear HLf HCu HSh HCo Hres c1
  go_enter Tryz.func60,Tryz.ntmps60
  go_upto_region 1 with fail
  rw [HW0.out]
  clear HW0
  go_wp2_with (go_at_fn 37;refine HFH.out.mono ?_;rintro e w' ⟨rfl,hb'⟩)
  go_ret
  exact ⟨rfl,(HA.out _ hb').2.2⟩
 have c1':leafBad c acc=0:=Decidable.of_not_not c1
 have HR1:Hid (chE (if isCur cur=false then (2:Int) else if tos.length=0∨tos.length≠ws.length then 3 else if 19<tos.length then 4 else if firstTo (toBad c acc tos) tos.length≠0 then firstTo (toBad c acc tos) tos.length else shBad ws)=res):=by
  have:=Hres.out;unfold poBad at this;simp only at this;rw [if_neg c1] at this;exact this
 rw [c1',chE_zero] at HFH
 clear Hres c1 c1'
 go_enter Tryz.func60,Tryz.ntmps60
 go_upto_region 1 with fail
 rw [HW0.out]
 clear HW0
 go_wp2_with fail
 go_at_fn 37
 refine HFH.out.mono ?_
 rintro e w1 ⟨rfl,hb1⟩
 clear HFH d0 d1 d2 d3
 obtain ⟨⟨d0,d1,d2,d3⟩,_,_⟩:=HA.out w1 hb1
 simp only [Nat.zero_add] at d0 d1 d2 d3
 have HCu1:Hid (Calls _ _ _ _ _):=HCu.out w1 hb1
 clear HCu
 cases hcu:isCur cur
 ·have er:res=chE 2:=by rw [← HR1.out,if_pos hcu]
  rw [chE_ne (by decide)] at er
  subst er
  rw [hcu] at HCu1
  clear HR1 hcu
  go_wp2_with (go_at_call 15;refine HCu1.out.mono ?_;rintro e w2 ⟨rfl,hb2⟩)
  go_ret
  exact ⟨rfl,(HA.out _ hb2).2.2⟩
 have HR2:Hid (chE (if tos.length=0∨tos.length≠ws.length then (3:Int) else if 19<tos.length then 4 else if firstTo (toBad c acc tos) tos.length≠0 then firstTo (toBad c acc tos) tos.length else shBad ws)=res):=by
  have:=HR1.out;rw [if_neg (by rw [hcu];simp)] at this;exact this
 rw [hcu] at HCu1
 clear HR1 hcu
 go_wp2_with fail
 refine HCu1.out.mono ?_
 rintro e w2 ⟨rfl,hb2⟩
 clear d0 d1 d2 d3 HCu1 hb1
 obtain ⟨⟨d0,d1,d2,d3⟩,_,hbw⟩:=HA.out w2 hb2
 simp only [Nat.zero_add] at d0 d1 d2 d3
 by_cases c3:tos.length=0∨tos.length≠ws.length
 ·have er:res=chE 3:=by rw [← HR2.out,if_pos c3]
  rw [chE_ne (by decide)] at er
  subst er
  by_cases c30:tos.length=0
  ·obtain rfl:=List.eq_nil_of_length_eq_zero c30
   clear HR2 c3 c30 HLf HSh HCo HA
   simp only [List.length_nil] at d2
   go_wp2
   go_ret
   exact ⟨rfl,hbw⟩
  ·have n0:((tos.length:Int) == 0)=false:=by rw [beq_eq_false_iff_ne];omega
   have n1:((tos.length:Int) != (ws.length:Int))=true:=by
    rw [bne_iff_ne];intro e;rcases c3 with c3 | c3 <;> omega
   have n2:((tos.length:Int) == (ws.length:Int))=false:=by
    rw [beq_eq_false_iff_ne];intro e;rcases c3 with c3 | c3 <;> omega
   clear HR2 c3 HLf HSh HCo HA
   go_wp2
   go_ret
   exact ⟨rfl,hbw⟩
 have he:ws.length=tos.length:=by omega
 have hn0:tos.length≠0:=by omega
 have HR3:Hid (chE (if 19<tos.length then (4:Int) else if firstTo (toBad c acc tos) tos.length≠0 then firstTo (toBad c acc tos) tos.length else shBad ws)=res):=by
  have:=HR2.out;rw [if_neg c3] at this;exact this
 clear HR2 c3
 obtain ⟨n,hn⟩:∃ n,tos.length=n:=⟨_,rfl⟩
 rw [he] at d3 HSh
 rw [hn] at d2 d3 HSh HCo HR3 hcap hn0 hlt
 have Hn:Hid (tos.length=n):=hn
 have Hwn:Hid (ws.length=n):=he.trans hn
 clear he hn hlw
 have n0:((n:Int) == 0)=false:=by rw [beq_eq_false_iff_ne];omega
 have n1:(n:Int)≤tC:=by omega
 by_cases c4:19<n
 ·have er:res=chE 4:=by rw [← HR3.out,if_pos c4]
  rw [chE_ne (by decide)] at er
  subst er
  have i4:(19:Int)<n:=by omega
  clear HR3 HLf HSh HCo HA
  go_wp2
  go_ret
  exact ⟨rfl,hbw⟩
 have HR4:Hid (chE (if firstTo (toBad c acc tos) n≠0 then firstTo (toBad c acc tos) n else shBad ws)=res):=by
  have:=HR3.out;rw [if_neg c4] at this;exact this
 have i4:¬ (19:Int)<n:=by omega
 have i5:(n:Int)≤19:=by omega
 have h19:n≤19:=by omega
 clear HR3
 go_wp2
 go_loopw [45] (fun i wr=>∃ k:Nat,k≤n∧i=.int .i64 k∧Hid (firstTo (toBad c acc tos) k=0)∧Hid (Below w0.heap.size w0 wr)) (fun i _=>n - (RowKit.intOf i).toNat)
 case atStart=>exact ⟨0,Nat.zero_le _,rfl,rfl,hb2⟩
 case round=>
  obtain ⟨k,hk,rfl,H0,HB⟩:=hrel
  clear d0 d1 d2 d3
  obtain ⟨⟨d0,d1,d2,d3⟩,hok,hbr⟩:=HA.out wr HB.out
  simp only [Nat.zero_add] at d0 d1 d2 d3
  by_cases hkn:k<n
  ·obtain ⟨b,off,e,hbl,hc⟩:=hok.tx.at (k:=k) (by show k<tos.length;rw [Hn.out];exact hkn)
   simp only at e hc
   subst e
   have HL1:Hid (Calls _ _ _ _ _):=HLf.out (tos.getD k ByteArray.empty) wr HB.out
   have HE:Hid (toBad c acc tos k=if leafBad c (tos.getD k ByteArray.empty)≠0 then leafBad c (tos.getD k ByteArray.empty) else if tos.getD k ByteArray.empty=acc∨memB (tos.getD k ByteArray.empty) (tos.take k)=true then 8 else 0):=rfl
   have HRet:Hid (∀ z,z≠0→toBad c acc tos k=z→res=chE z):=fun z h0 h1=>by
    rw [← HR4.out,firstTo_first H0.out (by rw [h1];exact h0) hkn,if_pos (by rw [h1];exact h0),h1]
   have HCk:Hid (∀ W,Below w0.heap.size w0 W→Calls Tryz.prog 39 #[.slice (some ⟨b,off,none⟩) k tC,.string (tos.getD k ByteArray.empty)] W fun e w'=>e=.returned (.bool (memB (tos.getD k ByteArray.empty) (tos.take k)))∧w'=W):=fun W hW=>HCo.out k W hW h19 hk _
   have HNx:Hid (toBad c acc tos k=0→firstTo (toBad c acc tos) (k+1)=0):=fun h=>by rw [firstTo_next H0.out,h]
   rw [Hn.out] at d2
   rw [Hwn.out] at d3
   clear hok HSh HLf HCo
   generalize tos.getD k ByteArray.empty=code at *
   have j0:(0:Int)≤k:=by omega
   have j1:(k:Int)<n:=by omega
   have j2:(k:Int)≤tC:=by omega
   by_cases l1:leafBad c code≠0
   ·have er:res=chE (leafBad c code):=HRet.out _ l1 (by rw [HE.out,if_pos l1])
    rw [chE_ne l1] at er HL1
    subst er
    clear HE HRet HCk HNx HR4
    go_wp2_with (go_at_fn 37;refine HL1.out.mono ?_;rintro e w3 ⟨rfl,hb3⟩)
    go_ret
    exact ⟨rfl,(HA.out _ hb3).2.2⟩
   have l1':leafBad c code=0:=Decidable.of_not_not l1
   rw [l1',chE_zero] at HL1
   have HE2:Hid (toBad c acc tos k=if code=acc∨memB code (tos.take k)=true then 8 else 0):=by
    have:=HE.out;rw [if_neg l1] at this;exact this
   clear HE l1 l1'
   go_wp2_with fail
   go_at_fn 37
   refine HL1.out.mono ?_
   rintro e w3 ⟨rfl,hb3⟩
   clear d0 d1 d2 d3 HL1
   obtain ⟨⟨d0,d1,d2,d3⟩,_,hbr⟩:=HA.out w3 hb3
   simp only [Nat.zero_add] at d0 d1 d2 d3
   rw [Hn.out] at d2
   rw [Hwn.out] at d3
   have HC3:Hid (Calls _ _ _ _ _):=HCk.out w3 hb3
   clear HCk
   have HB3:Hid (Below w0.heap.size w0 w3):=hb3
   clear hb3
   by_cases l2:code=acc
   ·subst l2
    have er:res=chE 8:=HRet.out 8 (by decide) (by rw [HE2.out,if_pos (.inl rfl)])
    rw [chE_ne (by decide)] at er
    subst er
    clear HE2 HRet HC3 HNx HR4
    go_wp2
    go_ret
    exact ⟨rfl,hbr⟩
   have l2':=ch_ne l2
   cases hm:memB code (tos.take k)
   ·rw [hm] at HC3 HE2
    have HN:Hid (firstTo (toBad c acc tos) (k+1)=0):=HNx.out (by rw [HE2.out,if_neg (by simp [l2])])
    clear HE2 HRet HNx
    go_wp2_with (go_at_call 39;refine HC3.out.mono ?_;rintro e w' ⟨rfl,rfl⟩)
    go_roundw
    case rel=>exact ⟨k+1,by omega,by go_num,HN,HB3⟩
    case measure=>simp [RowKit.intOf];omega
   ·rw [hm] at HC3 HE2
    have er:res=chE 8:=HRet.out 8 (by decide) (by rw [HE2.out,if_pos (.inr rfl)])
    rw [chE_ne (by decide)] at er
    subst er
    clear HE2 HRet HNx HR4
    go_wp2_with (go_at_call 39;refine HC3.out.mono ?_;rintro e w' ⟨rfl,rfl⟩)
    go_ret
    exact ⟨rfl,hbr⟩
  ·have ek:k=n:=by omega
   subst ek
   have er:res=chE (shBad ws):=by rw [← HR4.out,if_neg (by simp [H0.out])]
   have HS1:Hid (Calls _ _ _ _ _):=HSh.out wr HB.out
   rw [← er] at HS1
   have j1:¬ (k:Int)<k:=by omega
   rw [Hn.out] at d2
   rw [Hwn.out] at d3
   clear er HR4 HSh HLf HCo hok
   go_wp2_with fail
   refine HS1.out.mono ?_
   rintro e w3 ⟨⟨v,rfl⟩,hb3⟩
   have hbr3:=(HA.out _ hb3).2.2
   clear HS1 hb3 HA
   go_wp2
   go_ret
   exact ⟨rfl,hbr3⟩
end Go.Proofs.YtjdjfpkjikdkoaaGreatDoor
