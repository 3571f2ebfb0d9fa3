import Derived.Test.YtfmjfgmbjdhogaaGreatDoorMb8
import Derived.Laws.Tables
set_option linter.unusedVariables false
set_option linter.unusedSimpArgs false
set_option maxRecDepth 20000
set_option maxHeartbeats 8000000
namespace Go.Proofs.YtfmjfgmbjdhogaaGreatDoor
open Go.RowKit
def cnt (ls:List Int):Nat→Nat→Nat→Nat
 | 0,k,r=>if r=0 then k - packedN ((rowS ls 0).take k) else 0
 | i+1,k,r=>if r=i+1 then k - packedN ((rowS ls (i+1)).take k) else cnt ls i (2*packedN ((rowS ls (i+1)).take k)) r
def bumps (ps:List Nat)(x:Nat→Nat):Nat→List Int→List Int
 | 0,zs=>zs
 | i+1,zs=>bumps ps x i (bump zs (ps.take (x i)))
theorem bumps_congr (ps:List Nat):∀ (i:Nat) (x y:Nat→Nat) (zs:List Int),(∀ r,r < i→x r=y r)→bumps ps x i zs=bumps ps y i zs
 | 0,x,y,zs,_=>rfl
 | i+1,x,y,zs,h=>by
  unfold bumps
  rw [h i (Nat.lt_succ_self i)]
  exact bumps_congr ps i x y _ (fun r hr=>h r (by omega))
theorem wN_congr:∀ (i:Nat) (x y:Nat→Nat),(∀ r,r < i→x r=y r)→wN x i=wN y i
 | 0,x,y,_=>rfl
 | i+1,x,y,h=>by unfold wN;rw [wN_congr i x y (fun r hr=>h r (by omega)),h i (Nat.lt_succ_self i)]
theorem cN_congr (ls:List Int):∀ (i:Nat) (x y:Nat→Nat),(∀ r,r < i→x r=y r)→cN ls x i=cN ls y i
 | 0,x,y,_=>rfl
 | i+1,x,y,h=>by unfold cN;rw [cN_congr ls i x y (fun r hr=>h r (by omega)),h i (Nat.lt_succ_self i)]
theorem cnt_top (ls:List Int):∀ (i k:Nat),cnt ls i k i=k - packedN ((rowS ls i).take k)
 | 0,k=>by simp [cnt]
 | i+1,k=>by simp [cnt]
theorem cnt_low (ls:List Int)(i k r:Nat)(h:r≤i):cnt ls (i+1) k r=cnt ls i (2*packedN ((rowS ls (i+1)).take k)) r:=by
 show (if r=i+1 then _ else _)=_
 rw [if_neg (by omega)]
theorem addL_bumps (ls:List Int)(ps:List Nat):∀ (i k:Nat) (zs:List Int),addL ls ps (i+1) k zs=bumps ps (cnt ls i k) (i+1) zs
 | 0,k,zs=>by simp [addL,bumps,cnt]
 | i+1,k,zs=>by
  unfold addL
  rw [addL_bumps ls ps i]
  show bumps ps _ (i+1) _=bumps ps (cnt ls (i+1) k) (i+1) (bump zs (ps.take (cnt ls (i+1) k (i+1))))
  rw [cnt_top]
  exact bumps_congr ps (i+1) _ _ _ (fun r hr=>(cnt_low ls i k r (by omega)).symm)
theorem cnt_facts (ls:List Int):∀ (i k:Nat),k≤(rowS ls i).length→
  (∀ r,r≤i→cnt ls i k r≤ls.length)∧wN (cnt ls i k) (i+1)=k*2 ^ i∧sumW ((rowS ls i).take k)=cN ls (cnt ls i k) (i+1)
 | 0,k,hk=>by
  obtain ⟨h1,h2,h3,_⟩:=chosen_ok ls 0 k hk
  have h4:=h3 rfl
  have h5:cnt ls 0 k 0=k:=by rw [cnt_top,h4];omega
  have hl:leafN ((rowS ls 0).take k)=k:=by
   have:=packed_leaf ((rowS ls 0).take k)
   rw [List.length_take,h4] at this;omega
  refine ⟨fun r hr=>?_,?_,?_⟩
  ·have:r=0:=by omega
   subst this
   rw [h5];omega
  ·simp [wN,h5]
  ·rw [row_zero] at hl ⊢
   rw [mrg_sum,hl,tk_nil]
   simp [cN,h5]
 | i+1,k,hk=>by
  obtain ⟨h1,h2,_,h4⟩:=chosen_ok ls (i+1) k hk
  have h5:=h4 i rfl
  obtain ⟨p,hp⟩:∃ p,p=packedN ((rowS ls (i+1)).take k):=⟨_,rfl⟩
  rw [← hp] at h1 h2 h5
  obtain ⟨g1,g2,g3⟩:=cnt_facts ls i (2*p) h5
  have ht:cnt ls (i+1) k (i+1)=k - p:=by rw [cnt_top,← hp]
  have hlow:∀ r,r < i+1→cnt ls (i+1) k r=cnt ls i (2*p) r:=fun r hr=>by rw [cnt_low ls i k r (by omega),← hp]
  refine ⟨fun r hr=>?_,?_,?_⟩
  ·by_cases e:r=i+1
   ·subst e;rw [ht];exact h1
   ·rw [hlow r (by omega)];exact g1 r (by omega)
  ·show wN (cnt ls (i+1) k) (i+1)+cnt ls (i+1) k (i+1)*2 ^ (i+1)=_
   rw [wN_congr (i+1) _ _ hlow,g2,ht]
   obtain ⟨c,hc⟩:∃ c,k=p+c:=⟨k - p,by omega⟩
   rw [hc,Nat.add_sub_cancel_left,Nat.add_mul,Nat.pow_succ,Nat.mul_comm 2 p,Nat.mul_assoc,Nat.mul_comm 2]
  ·have hl:leafN ((rowS ls (i+1)).take k)=k - p:=by
    have:=packed_leaf ((rowS ls (i+1)).take k)
    rw [List.length_take,← hp] at this;omega
   show _=cN ls (cnt ls (i+1) k) (i+1)+tk ls (cnt ls (i+1) k (i+1))
   rw [cN_congr ls (i+1) _ _ hlow,← g3,ht,pairs_sum _ _ h5]
   rw [row_succ] at hl hp ⊢
   rw [mrg_sum,hl,← hp];omega
theorem mrg_wait:∀ (P ls:List Int),Srd ls→∀ (k t:Nat),leafN ((mrg P ls).take k) < ls.length→t < packedN ((mrg P ls).take k)→P.getD t 0 < ls.getD (leafN ((mrg P ls).take k)) 0:=by
 intro P
 induction P with
 | nil=>
  intro ls _ k t hc ht
  have:packedN ((mrg [] ls).take k)=0:=by
   have h1:=packed_take (mrg [] ls) k
   have h2:packedN (mrg [] ls)=0:=by have:=packed_mergeS [] ls;rw [mergeS_mrg] at this;simpa [pairsL] using this
   omega
  omega
 | cons w P ihP=>
  intro ls
  induction ls with
  | nil=>intro _ k t hc ht;simp at hc
  | cons z r ih=>
   intro hs k t hc ht
   cases k with
   | zero=>simp [packedN] at ht
   | succ k=>
    by_cases h:z≤w
    ·rw [mrg_le _ _ _ _ h,List.take_succ_cons,leafN_cons] at hc ⊢
     rw [mrg_le _ _ _ _ h,List.take_succ_cons,packedN_cons] at ht
     simp only [Bool.false_eq_true,if_false,List.length_cons] at hc ht ⊢
     rw [List.getD_cons_succ]
     exact ih (List.pairwise_cons.1 hs).2 k t (by omega) ht
    ·rw [mrg_gt _ _ _ _ h,List.take_succ_cons,leafN_cons] at hc ⊢
     rw [mrg_gt _ _ _ _ h,List.take_succ_cons,packedN_cons] at ht
     simp only [if_true,Nat.add_zero] at hc ht ⊢
     cases t with
     | zero=>
      rw [List.getD_cons_zero]
      have hm:∀ j,j < (z :: r).length→z≤(z :: r).getD j 0:=by
       intro j hj
       cases j with
       | zero=>simp
       | succ j=>
        have hj2:j < r.length:=by simpa using hj
        rw [List.getD_cons_succ]
        have e:r.getD j 0=r[j]:=by simp [List.getD,hj2]
        rw [e]
        exact (List.pairwise_cons.1 hs).1 _ (List.getElem_mem hj2)
      have:=hm _ hc
      omega
     | succ t=>
      rw [List.getD_cons_succ]
      exact ihP (z :: r) hs k t hc (by omega)
theorem mrg_leaf:∀ (P ls:List Int) (k j:Nat),j < leafN ((mrg P ls).take k)→∃ s,s < k∧s < (mrg P ls).length∧((mrg P ls).getD s (0,false)).1=ls.getD j 0:=by
 intro P
 induction P with
 | nil=>
  intro ls
  induction ls with
  | nil=>intro k j h;simp [mrg,leafN] at h
  | cons z r ih=>
   intro k j h
   cases k with
   | zero=>simp [leafN] at h
   | succ k=>
    rw [mrg_nil_cons,List.take_succ_cons,leafN_cons] at h
    cases j with
    | zero=>exact ⟨0,by omega,by rw [mrg_nil_cons];simp,by rw [mrg_nil_cons];rfl⟩
    | succ j=>
     simp only [Bool.false_eq_true,if_false] at h
     obtain ⟨s,h1,h2,h3⟩:=ih k j (by omega)
     exact ⟨s+1,by omega,by rw [mrg_nil_cons];simpa using h2,by rw [mrg_nil_cons,List.getD_cons_succ,List.getD_cons_succ];exact h3⟩
 | cons w P ihP=>
  intro ls
  induction ls with
  | nil=>
   intro k j h
   cases k with
   | zero=>simp [leafN] at h
   | succ k=>
    rw [mrg_cons_nil,List.take_succ_cons,leafN_cons] at h
    simp only [if_true,Nat.add_zero] at h
    obtain ⟨s,h1,h2,h3⟩:=ihP [] k j h
    exact ⟨s+1,by omega,by rw [mrg_cons_nil];simpa using h2,by rw [mrg_cons_nil,List.getD_cons_succ];exact h3⟩
  | cons z r ih=>
   intro k j h
   cases k with
   | zero=>simp [leafN] at h
   | succ k=>
    by_cases hz:z≤w
    ·rw [mrg_le _ _ _ _ hz,List.take_succ_cons,leafN_cons] at h
     cases j with
     | zero=>exact ⟨0,by omega,by rw [mrg_le _ _ _ _ hz];simp,by rw [mrg_le _ _ _ _ hz];rfl⟩
     | succ j=>
      simp only [Bool.false_eq_true,if_false] at h
      obtain ⟨s,h1,h2,h3⟩:=ih k j (by omega)
      exact ⟨s+1,by omega,by rw [mrg_le _ _ _ _ hz];simpa using h2,by rw [mrg_le _ _ _ _ hz,List.getD_cons_succ,List.getD_cons_succ];exact h3⟩
    ·rw [mrg_gt _ _ _ _ hz,List.take_succ_cons,leafN_cons] at h
     simp only [if_true,Nat.add_zero] at h
     obtain ⟨s,h1,h2,h3⟩:=ihP (z :: r) k j h
     exact ⟨s+1,by omega,by rw [mrg_gt _ _ _ _ hz];simpa using h2,by rw [mrg_gt _ _ _ _ hz,List.getD_cons_succ];exact h3⟩
theorem pairs_get:∀ (r:List It) (t s:Nat),2*t+1 < r.length→s=2*t∨s=2*t+1→(∀ u∈r,0≤u.1)→(r.getD s (0,false)).1≤(pairsL r).getD t 0
 | [],t,s,h,_,_=>by simp at h
 | [a],t,s,h,_,_=>by simp at h
 | a :: b :: r,0,s,h,hs,h0=>by
  have h1:=h0 a List.mem_cons_self
  have h2:=h0 b (List.mem_cons_of_mem _ List.mem_cons_self)
  rcases hs with rfl | rfl <;> simp [pairsL] <;> omega
 | a :: b :: r,t+1,s,h,hs,h0=>by
  have:=pairs_get r t (s - 2) (by simp only [List.length_cons] at h;omega) (by omega) (fun u hu=>h0 u (List.mem_cons_of_mem _ (List.mem_cons_of_mem _ hu)))
  obtain ⟨s',rfl⟩:∃ s',s=s'+1+1:=⟨s - 2,by omega⟩
  rw [List.getD_cons_succ,List.getD_cons_succ]
  simpa [pairsL] using this
theorem row_nonneg (ls:List Int)(h0:∀ z∈ls,0≤z∧z≤1048576)(i:Nat):∀ u∈rowS ls i,0≤u.1:=fun u hu=>(small_row ls h0 i u hu).1
theorem cnt_step (ls:List Int)(hs:Srd ls)(h0:∀ z∈ls,0≤z∧z≤1048576)(i k:Nat)(hk:k≤(rowS ls (i+1)).length)(p:Nat)(hp:p=packedN ((rowS ls (i+1)).take k)):
  2*p - packedN ((rowS ls i).take (2*p))≤k - p:=by
 obtain ⟨h1,h2,_,h4⟩:=chosen_ok ls (i+1) k hk
 have h5:=h4 i rfl
 rw [← hp] at h1 h2 h5
 have hl:leafN ((rowS ls (i+1)).take k)=k - p:=by
  have:=packed_leaf ((rowS ls (i+1)).take k)
  rw [List.length_take,← hp] at this;omega
 have hl2:leafN ((rowS ls i).take (2*p))=2*p - packedN ((rowS ls i).take (2*p)):=by
  have:=packed_leaf ((rowS ls i).take (2*p))
  rw [List.length_take] at this;omega
 rw [← hl2]
 refine Nat.le_of_not_lt (fun hlt=>?_)
 have hm:=leaf_take (rowS ls i) (2*p)
 rw [leafs_row] at hm
 obtain ⟨P,hP⟩:∃ P,rowS ls i=mrg P ls:=by
  cases i with
  | zero=>exact ⟨_,row_zero ls⟩
  | succ i=>exact ⟨_,row_succ ls i⟩
 have hlf:∃ s,s < 2*p∧s < (rowS ls i).length∧((rowS ls i).getD s (0,false)).1=ls.getD (k - p) 0:=by
  rw [hP] at hlt ⊢
  exact mrg_leaf P ls (2*p) (k - p) hlt
 obtain ⟨s,s1,s2,s3⟩:=hlf
 have hw:=mrg_wait (pairsL (rowS ls i)) ls hs k (s / 2) (by rw [← row_succ,hl];omega) (by rw [← row_succ,← hp];omega)
 rw [← row_succ,hl] at hw
 have hg:=pairs_get (rowS ls i) (s / 2) s (by omega) (by omega) (row_nonneg ls h0 i)
 omega
theorem cnt_mono (ls:List Int)(hs:Srd ls)(h0:∀ z∈ls,0≤z∧z≤1048576):∀ (i k:Nat),k≤(rowS ls i).length→∀ r,r < i→cnt ls i k r≤cnt ls i k (r+1)
 | 0,k,_,r,hr=>by omega
 | i+1,k,hk,r,hr=>by
  obtain ⟨h1,h2,_,h4⟩:=chosen_ok ls (i+1) k hk
  have h5:=h4 i rfl
  rw [cnt_low ls i k r (by omega)]
  by_cases e:r=i
  ·subst e
   rw [cnt_top,cnt_top]
   exact cnt_step ls hs h0 r k hk _ rfl
  ·rw [cnt_low ls i k (r+1) (by omega)]
   exact cnt_mono ls hs h0 i _ h5 r (by omega)
def lenJ (x:Nat→Nat)(j:Nat):Nat→Nat
 | 0=>0
 | i+1=>lenJ x j i+(if j < x i then 1 else 0)
def valJ (x:Nat→Nat)(j:Nat):Nat→Nat
 | 0=>0
 | i+1=>valJ x j i+(if j < x i then 2 ^ i else 0)
theorem lenJ_le (x:Nat→Nat)(j:Nat):∀ i,lenJ x j i≤i
 | 0=>Nat.le_refl _
 | i+1=>by have:=lenJ_le x j i;unfold lenJ;split <;> omega
theorem lenJ_anti (x:Nat→Nat){j k:Nat}(h:j≤k):∀ i,lenJ x k i≤lenJ x j i
 | 0=>Nat.le_refl _
 | i+1=>by have:=lenJ_anti x h i;unfold lenJ;split <;> split <;> omega
theorem lenJ_zero (x:Nat→Nat)(j:Nat):∀ i,(∀ r,r < i→x r≤j)→lenJ x j i=0∧valJ x j i=0
 | 0,_=>⟨rfl,rfl⟩
 | i+1,h=>by
  obtain ⟨h1,h2⟩:=lenJ_zero x j i (fun r hr=>h r (by omega))
  have h3:=h i (by omega)
  unfold lenJ valJ
  rw [h1,h2,if_neg (by omega),if_neg (by omega)]
  exact ⟨rfl,rfl⟩
theorem below_top (x:Nat→Nat)(i:Nat)(hm:∀ r,r+1 < i+1→x r≤x (r+1)):∀ d r,r+d=i→x r≤x i
 | 0,r,h=>by rw [show r=i by omega];exact Nat.le_refl _
 | d+1,r,h=>Nat.le_trans (hm r (by omega)) (below_top x i hm d (r+1) (by omega))
theorem val_len (x:Nat→Nat)(j:Nat):∀ i,(∀ r,r+1 < i→x r≤x (r+1))→valJ x j i+2 ^ (i - lenJ x j i)=2 ^ i
 | 0,_=>by simp [valJ,lenJ]
 | i+1,h=>by
  by_cases hj:j < x i
  ·have ih:=val_len x j i (fun r hr=>h r (by omega))
   have hle:=lenJ_le x j i
   unfold valJ lenJ
   rw [if_pos hj,if_pos hj,show i+1 - (lenJ x j i+1)=i - lenJ x j i by omega,Nat.pow_succ]
   omega
  ·have hz:=lenJ_zero x j i (fun r hr=>by have:=below_top x i h (i - r) r (by omega);omega)
   unfold valJ lenJ
   rw [if_neg hj,if_neg hj,hz.1,hz.2]
   simp
def sumN (f:Nat→Nat):Nat→Nat
 | 0=>0
 | n+1=>sumN f n+f n
theorem sumN_add (f g:Nat→Nat):∀ n,sumN (fun j=>f j+g j) n=sumN f n+sumN g n
 | 0=>rfl
 | n+1=>by simp only [sumN,sumN_add f g n];omega
theorem sumN_const (c:Nat):∀ n,sumN (fun _=>c) n=n*c
 | 0=>by simp [sumN]
 | n+1=>by simp only [sumN,sumN_const c n,Nat.add_mul];omega
theorem sumN_below (c v:Nat):∀ n,sumN (fun j=>if j < c then v else 0) n=min c n*v
 | 0=>by simp [sumN]
 | n+1=>by
  simp only [sumN,sumN_below c v n]
  by_cases h:n < c
  ·rw [if_pos h,Nat.min_eq_right (by omega),Nat.min_eq_right (by omega),Nat.add_mul];omega
  ·rw [if_neg h,Nat.min_eq_left (by omega),Nat.min_eq_left (by omega)];rfl
theorem sumN_congr {f g:Nat→Nat}:∀ n,(∀ j,j < n→f j=g j)→sumN f n=sumN g n
 | 0,_=>rfl
 | n+1,h=>by simp only [sumN,sumN_congr n (fun j hj=>h j (by omega)),h n (by omega)]
theorem sumN_ge {f:Nat→Nat}:∀ n j,j < n→f j≤sumN f n
 | 0,j,h=>by omega
 | n+1,j,h=>by
  unfold sumN
  by_cases e:j=n
  ·subst e;omega
  ·have:=sumN_ge (f:=f) n j (by omega);omega
theorem sum_val (x:Nat→Nat)(n:Nat):∀ i,(∀ r,r < i→x r≤n)→sumN (fun j=>valJ x j i) n=wN x i
 | 0,_=>by simp only [valJ,wN];rw [sumN_const];omega
 | i+1,h=>by
  have ih:=sum_val x n i (fun r hr=>h r (by omega))
  simp only [valJ]
  rw [sumN_add,ih,sumN_below,Nat.min_eq_left (h i (by omega))]
  rfl
theorem sum_len (x:Nat→Nat)(n i:Nat)(h:∀ r,r < i→x r≤n)(hm:∀ r,r+1 < i→x r≤x (r+1)):wN x i+sumN (fun j=>2 ^ (i - lenJ x j i)) n=n*2 ^ i:=by
 rw [← sum_val x n i h,← sumN_add,sumN_congr (g:=fun _=>2 ^ i) n (fun j _=>val_len x j i hm),sumN_const]
theorem getD_set_eq (zs:List Int)(p:Nat)(v:Int)(h:p < zs.length):(zs.set p v).getD p 0=v:=by simp [List.getD,h]
theorem getD_set_ne (zs:List Int)(p q:Nat)(v:Int)(h:p≠q):(zs.set p v).getD q 0=zs.getD q 0:=by simp [List.getD,List.getElem?_set_ne h]
theorem bump_get:∀ (ps:List Nat) (zs:List Int) (p:Nat),p < zs.length→(bump zs ps).getD p 0=zs.getD p 0+((ps.count p:Nat):Int)
 | [],zs,p,_=>by simp [bump]
 | q :: r,zs,p,h=>by
  show (bump (zs.set q (zs.getD q 0+1)) r).getD p 0=_
  rw [bump_get r _ p (by simpa using h),List.count_cons]
  by_cases e:q=p
  ·subst e
   rw [getD_set_eq _ _ _ h];simp;omega
  ·rw [getD_set_ne _ _ _ _ e];simp [e]
def cntP (ps:List Nat)(x:Nat→Nat)(p:Nat):Nat→Nat
 | 0=>0
 | i+1=>cntP ps x p i+(ps.take (x i)).count p
theorem bumps_get (ps:List Nat)(x:Nat→Nat):∀ (i:Nat) (zs:List Int) (p:Nat),p < zs.length→(bumps ps x i zs).getD p 0=zs.getD p 0+((cntP ps x p i:Nat):Int)
 | 0,zs,p,_=>by simp [bumps,cntP]
 | i+1,zs,p,h=>by
  unfold bumps
  rw [bumps_get ps x i _ p (by rw [bump_len];exact h),bump_get _ _ _ h]
  have e:cntP ps x p (i+1)=cntP ps x p i+(ps.take (x i)).count p:=rfl
  rw [e];omega
theorem count_take:∀ (ps:List Nat) (c j:Nat),ps.Nodup→j < ps.length→(ps.take c).count (ps.getD j 0)=if j < c then 1 else 0
 | [],c,j,_,h=>by simp at h
 | a :: r,0,j,_,_=>by simp
 | a :: r,c+1,0,hn,_=>by
  have h1:=(List.nodup_cons.1 hn).1
  rw [List.take_succ_cons,List.getD_cons_zero,List.count_cons_self,if_pos (by omega),List.count_eq_zero.2 (fun hm=>h1 (List.mem_of_mem_take hm))]
 | a :: r,c+1,j+1,hn,h=>by
  have h1:=(List.nodup_cons.1 hn).1
  have hj:j < r.length:=by simpa using h
  have e:r.getD j 0=r[j]:=by simp [List.getD,hj]
  have hne:a≠r.getD j 0:=fun e2=>h1 (by rw [e2,e];exact List.getElem_mem hj)
  rw [List.take_succ_cons,List.getD_cons_succ,List.count_cons_of_ne hne,count_take r c j (List.nodup_cons.1 hn).2 hj]
  by_cases hc:j < c
  ·rw [if_pos hc,if_pos (by omega)]
  ·rw [if_neg hc,if_neg (by omega)]
theorem cntP_len (ps:List Nat)(x:Nat→Nat)(j:Nat)(hn:ps.Nodup)(hj:j < ps.length):∀ i,cntP ps x (ps.getD j 0) i=lenJ x j i
 | 0=>rfl
 | i+1=>by unfold cntP lenJ;rw [cntP_len ps x j hn hj i,count_take ps _ j hn hj]
theorem cntP_zero (ps:List Nat)(x:Nat→Nat)(p:Nat)(h:p ∉ ps):∀ i,cntP ps x p i=0
 | 0=>rfl
 | i+1=>by unfold cntP;rw [cntP_zero ps x p h i,List.count_eq_zero.2 (fun hm=>h (List.mem_of_mem_take hm))]
theorem cost_set:∀ (ws zs:List Int) (p:Nat),p < zs.length→p < ws.length→costL ws (zs.set p (zs.getD p 0+1))=costL ws zs+ws.getD p 0
 | [],zs,p,_,h=>by simp at h
 | a :: ws,[],p,h,_=>by simp at h
 | a :: ws,z :: zs,0,_,_=>by
  simp only [List.set_cons_zero,costL,List.getD_cons_zero]
  rw [Int.mul_add,Int.mul_one];omega
 | a :: ws,z :: zs,p+1,h,k=>by
  simp only [List.set_cons_succ,costL,List.getD_cons_succ]
  rw [cost_set ws zs p (by simpa using h) (by simpa using k)];omega
theorem cost_bump (ws:List Int):∀ (ps:List Nat) (zs:List Int),zs.length=ws.length→(∀ p∈ps,p < ws.length)→costL ws (bump zs ps)=costL ws zs+(ps.map (fun p=>ws.getD p 0)).sum
 | [],zs,_,_=>by simp [bump]
 | q :: r,zs,hl,h=>by
  show costL ws (bump (zs.set q (zs.getD q 0+1)) r)=_
  have hq:=h q List.mem_cons_self
  rw [cost_bump ws r _ (by rw [List.length_set];exact hl) (fun p hp=>h p (List.mem_cons_of_mem _ hp)),cost_set ws zs q (by omega) hq]
  simp;omega
theorem cost_bumps (ws ls:List Int)(ps:List Nat)(x:Nat→Nat)(hp:∀ p∈ps,p < ws.length)(hm:ps.map (fun p=>ws.getD p 0)=ls):∀ (i:Nat) (zs:List Int),zs.length=ws.length→costL ws (bumps ps x i zs)=costL ws zs+cN ls x i
 | 0,zs,_=>by simp [bumps,cN]
 | i+1,zs,hl=>by
  unfold bumps
  rw [cost_bumps ws ls ps x hp hm i _ (by rw [bump_len];exact hl),cost_bump ws _ _ hl (fun p h=>hp p (List.mem_of_mem_take h)),List.map_take,hm]
  have e:cN ls x (i+1)=cN ls x i+tk ls (x i):=rfl
  rw [e];unfold tk;omega
theorem cost_zero:∀ (ws:List Int) (n:Nat),costL ws (List.replicate n 0)=0
 | [],n=>by cases n <;> rfl
 | a :: ws,0=>rfl
 | a :: ws,n+1=>by rw [List.replicate_succ];simp only [costL,cost_zero ws n];simp
theorem kpart_zero:kpart 0=0:=by decide
theorem kraft_zero:∀ n:Nat,kraftL (List.replicate n 0)=0
 | 0=>rfl
 | n+1=>by rw [List.replicate_succ];simp only [kraftL,kraft_zero n,kpart_zero];rfl
theorem kraft_set:∀ (zs:List Int) (p:Nat),p < zs.length→kraftL zs=kpart (zs.getD p 0)+kraftL (zs.set p 0)
 | [],p,h=>by simp at h
 | z :: zs,0,_=>by simp [kraftL,kpart_zero]
 | z :: zs,p+1,h=>by
  simp only [List.set_cons_succ,kraftL,List.getD_cons_succ]
  have:=kraft_set zs p (by simpa using h)
  omega
theorem all_zero (zs:List Int)(h:∀ p,p < zs.length→zs.getD p 0=0):zs=List.replicate zs.length 0:=by
 apply List.ext_getElem (by simp)
 intro i h1 h2
 have:=h i h1
 simpa [List.getD,h1] using this
theorem kraft_at:∀ (ps:List Nat) (zs:List Int),ps.Nodup→(∀ p∈ps,p < zs.length)→(∀ p,p < zs.length→p ∉ ps→zs.getD p 0=0)→kraftL zs=(ps.map (fun p=>kpart (zs.getD p 0))).sum
 | [],zs,_,_,h=>by
  rw [all_zero zs (fun p hp=>h p hp (by simp)),kraft_zero];rfl
 | q :: r,zs,hn,hp,h=>by
  obtain ⟨h1,h2⟩:=List.nodup_cons.1 hn
  have hq:=hp q List.mem_cons_self
  rw [kraft_set zs q hq,kraft_at r (zs.set q 0) h2 (fun p hpr=>by rw [List.length_set];exact hp p (List.mem_cons_of_mem _ hpr)) (fun p hpl hpr=>by
   by_cases e:q=p
   ·subst e;rw [getD_set_eq _ _ _ hq]
   ·rw [getD_set_ne _ _ _ _ e]
    exact h p (by simpa using hpl) (by intro hm;rcases List.mem_cons.1 hm with h3 | h3;exact e h3.symm;exact hpr h3))]
  have:r.map (fun p=>kpart ((zs.set q 0).getD p 0))=r.map (fun p=>kpart (zs.getD p 0)):=by
   apply List.map_congr_left
   intro p hpr
   rw [getD_set_ne]
   rintro rfl
   exact h1 hpr
  rw [this]
  simp
theorem sum_map_get (f:Nat→Int)(g:Nat→Nat):∀ (ps:List Nat),(∀ j,j < ps.length→f (ps.getD j 0)=(g j:Int))→(ps.map f).sum=((sumN g ps.length:Nat):Int):=by
 intro ps
 generalize hn:ps.length=n
 induction n generalizing ps with
 | zero=>intro _;rw [List.eq_nil_of_length_eq_zero hn];rfl
 | succ n ih=>
  intro h
  obtain ⟨S,z,hS⟩:∃ S z,ps=S++[z]:=⟨ps.dropLast,ps.getLast (by intro e;rw [e] at hn;simp at hn),(List.dropLast_concat_getLast _).symm⟩
  subst hS
  have hl:S.length=n:=by simpa using hn
  have h1:=ih S hl (fun j hj=>by
   have:=h j (by omega)
   rw [List.getD,List.getElem?_append_left (by omega)] at this
   exact this)
  have h2:=h n (by omega)
  rw [List.getD,List.getElem?_append_right (by omega),hl] at h2
  simp at h2
  rw [List.map_append,List.sum_append,h1]
  simp [sumN,h2]
theorem leaves_mem:∀ (ws:List Int) (i:Nat) (p:Lf),p∈leavesL i ws↔∃ q:Nat,q < ws.length∧p=(((i+q:Nat):Int),ws.getD q 0)∧0 < ws.getD q 0
 | [],i,p=>by simp [leavesL]
 | z :: r,i,p=>by
  have ih:=leaves_mem r (i+1) p
  have e:p∈leavesL i (z :: r)↔(0 < z∧p=((i:Int),z))∨p∈leavesL (i+1) r:=by
   by_cases hz:0 < z
   ·simp [leavesL,hz]
   ·simp [leavesL,hz]
  rw [e,ih]
  constructor
  ·rintro (⟨h1,h2⟩ | ⟨q,h1,h2,h3⟩)
   ·exact ⟨0,by simp,by simpa using h2,by simpa using h1⟩
   ·exact ⟨q+1,by simpa using h1,by rw [h2,List.getD_cons_succ,show i+1+q=i+(q+1) by omega],by rw [List.getD_cons_succ];exact h3⟩
  ·rintro ⟨q,h1,h2,h3⟩
   cases q with
   | zero=>exact .inl ⟨by simpa using h3,by simpa using h2⟩
   | succ q=>exact .inr ⟨q,by simpa using h1,by rw [h2,List.getD_cons_succ,show i+1+q=i+(q+1) by omega],by rw [List.getD_cons_succ] at h3;exact h3⟩
theorem nodup_places (ws:List Int)(lv:List Lf)(h:SrtP lv (leavesL 0 ws)):(placesN lv).Nodup:=by
 have hp:(placesN lv).Perm (placesN (leavesL 0 ws)):=h.perm.map _
 rw [hp.nodup_iff]
 have hi:=inc_leaves ws 0
 have hg:=leaves_ge ws 0
 unfold placesN List.Nodup
 rw [List.pairwise_map]
 unfold Inc at hi
 refine List.Pairwise.imp_of_mem (fun {a b} ha hb hab=>?_) hi
 have h1:=hg a ha
 have h2:=hg b hb
 omega
theorem srd_of {lv:List Lf}(h:lv.Pairwise Bef):Srd (lv.map (·.2)):=by
 unfold Srd
 rw [List.pairwise_map]
 exact h.imp (fun {a b} hab=>by unfold Bef at hab;omega)
theorem srd_get {ls:List Int}(h:Srd ls){i j:Nat}(hij:i≤j)(hj:j < ls.length):ls.getD i 0≤ls.getD j 0:=by
 by_cases e:i=j
 ·subst e;omega
 ·have h1:ls.getD i 0=ls[i]:=by simp [List.getD,show i < ls.length by omega]
  have h2:ls.getD j 0=ls[j]:=by simp [List.getD,hj]
  rw [h1,h2]
  exact List.pairwise_iff_getElem.1 h i j _ _ (by omega)
theorem get_of_mem {ps:List Nat}{p:Nat}(h:p∈ps):∃ j,j < ps.length∧ps.getD j 0=p:=by
 obtain ⟨j,hj,e⟩:=List.mem_iff_getElem.1 h
 exact ⟨j,hj,by simp [List.getD,hj,e]⟩
theorem mem_of_get (ps:List Nat)(j:Nat)(h:j < ps.length):ps.getD j 0∈ps:=by
 have:ps.getD j 0=ps[j]:=by simp [List.getD,h]
 rw [this];exact List.getElem_mem h
theorem sumN_two {f:Nat→Nat}:∀ n i j,i < n→j < n→i≠j→f i+f j≤sumN f n
 | 0,i,j,h,_,_=>by omega
 | n+1,i,j,hi,hj,hne=>by
  unfold sumN
  by_cases e:i=n
  ·subst e
   have:=sumN_ge (f:=f) i j (by omega);omega
  ·by_cases e2:j=n
   ·subst e2
    have:=sumN_ge (f:=f) j i (by omega);omega
   ·have:=sumN_two (f:=f) n i j (by omega) (by omega) hne;omega
theorem sumN_mul (f:Nat→Nat)(c:Nat):∀ n,sumN (fun j=>c*f j) n=c*sumN f n
 | 0=>by simp [sumN]
 | n+1=>by simp only [sumN,sumN_mul f c n,Nat.mul_add]
def leastL (ls:List Int)(limit:Nat):Int:=if ls.length < 2 then ls.sum else sumW ((rowS ls (limit - 1)).take (2*ls.length - 2))
structure LensF (ws:List Int)(lv:List Lf)(limit:Nat)(Z:List Int):Prop where
 len:Z.length=ws.length
 bd:∀ p,p < ws.length→0≤Z.getD p 0∧Z.getD p 0≤limit
 pos:∀ p,p < ws.length→(0 < ws.getD p 0↔0 < Z.getD p 0)
 anti:∀ p q,p < ws.length→q < ws.length→0 < ws.getD q 0→ws.getD q 0 < ws.getD p 0→Z.getD p 0≤Z.getD q 0
 kraft:kraftL Z=if lv.length=0 then 0 else if lv.length=1 then 16384 else 32768
 cost:costL ws Z=leastL (lv.map (·.2)) limit
structure CntF (ls:List Int)(limit:Nat)(x:Nat→Nat):Prop where
 le:∀ r,r < limit→x r≤ls.length
 mono:∀ r,r+1 < limit→x r≤x (r+1)
 room:wN x limit+2 ^ limit=ls.length*2 ^ limit
 cost:leastL ls limit=cN ls x limit
 sum:sumN (fun j=>2 ^ (limit - lenJ x j limit)) ls.length=2 ^ limit
 one:∀ j,j < ls.length→1≤lenJ x j limit
theorem cntF (ls:List Int)(limit:Nat)(hs:Srd ls)(h0:∀ z∈ls,0≤z∧z≤1048576)(h2:2≤ls.length)(hl:1≤limit)(hf:ls.length≤2 ^ limit):CntF ls limit (cnt ls (limit - 1) (2*ls.length - 2)):=by
 obtain ⟨L,rfl⟩:∃ L,limit=L+1:=⟨limit - 1,by omega⟩
 have hroom:=rowS_room ls (L+1) hl hf
 rw [Nat.add_sub_cancel] at hroom ⊢
 obtain ⟨c1,c2,c3⟩:=cnt_facts ls L (2*ls.length - 2) hroom
 have c4:=cnt_mono ls hs h0 L (2*ls.length - 2) hroom
 obtain ⟨x,hx⟩:∃ x,x=cnt ls L (2*ls.length - 2):=⟨_,rfl⟩
 rw [← hx] at c1 c2 c3 c4 ⊢
 obtain ⟨n,hn⟩:∃ n,ls.length=n+2:=⟨ls.length - 2,by omega⟩
 have hw:wN x (L+1)+2 ^ (L+1)=ls.length*2 ^ (L+1):=by
  have e1:(n+1)*2*2 ^ L=(n+1)*2 ^ (L+1):=by rw [Nat.mul_assoc,Nat.mul_comm 2 (2 ^ L),← Nat.pow_succ]
  rw [c2,hn,show 2*(n+2) - 2=(n+1)*2 by omega,e1,show n+2=(n+1)+1 by omega,Nat.add_mul (n+1) 1,Nat.one_mul]
 have hsum:sumN (fun j=>2 ^ (L+1 - lenJ x j (L+1))) ls.length=2 ^ (L+1):=by
  have:=sum_len x ls.length (L+1) (fun r hr=>c1 r (by omega)) (fun r hr=>c4 r (by omega))
  omega
 refine ⟨fun r hr=>c1 r (by omega),fun r hr=>c4 r (by omega),hw,?_,hsum,?_⟩
 ·unfold leastL
  rw [if_neg (by omega),Nat.add_sub_cancel]
  exact c3
 ·intro j hj
  refine Nat.pos_of_ne_zero (fun e=>?_)
  obtain ⟨i,hi,hne⟩:∃ i,i < ls.length∧i≠j:=by
   by_cases hj0:j=0
   ·exact ⟨1,by omega,by omega⟩
   ·exact ⟨0,by omega,by omega⟩
  have:=sumN_two (f:=fun j=>2 ^ (L+1 - lenJ x j (L+1))) ls.length i j hi hj hne
  simp only [e,Nat.sub_zero] at this
  have h3:=Nat.two_pow_pos (L+1 - lenJ x i (L+1))
  omega
theorem pow_split (l L:Nat)(h:l≤L)(hL:L≤15):2 ^ (15 - l)=2 ^ (15 - L)*2 ^ (L - l):=by
 rw [← Nat.pow_add];congr 1;omega
theorem lensF (ws:List Int)(limit:Int)(lv:List Lf)(hok:LensOkP ws limit)(hs:SrtP lv (leavesL 0 ws)):LensF ws lv limit.toNat (lensOf lv ws.length limit.toNat):=by
 obtain ⟨h1,h2,h3,h4⟩:=hok
 obtain ⟨L,hL⟩:∃ L,L=limit.toNat:=⟨_,rfl⟩
 rw [← hL] at h4 ⊢
 have hL1:1≤L∧L≤15:=by omega
 rw [← hs.len] at h4
 have hmem:∀ p∈lv,∃ q:Nat,q < ws.length∧p=((q:Int),ws.getD q 0)∧0 < ws.getD q 0:=by
  intro p hp
  have:=(leaves_mem ws 0 p).1 (hs.perm.mem_iff.1 hp)
  simpa using this
 have hmem2:∀ q:Nat,q < ws.length→0 < ws.getD q 0→((q:Int),ws.getD q 0)∈lv:=by
  intro q hq h0
  exact hs.perm.mem_iff.2 ((leaves_mem ws 0 _).2 ⟨q,hq,by simp,h0⟩)
 have hps:∀ p∈placesN lv,p < ws.length∧0 < ws.getD p 0:=by
  intro p hp
  obtain ⟨y,hy,rfl⟩:=List.mem_map.1 hp
  obtain ⟨q,hq,rfl,h0⟩:=hmem y hy
  simpa using ⟨hq,h0⟩
 have hps2:∀ p,p < ws.length→0 < ws.getD p 0→p∈placesN lv:=by
  intro p hp h0
  exact List.mem_map.2 ⟨_,hmem2 p hp h0,by simp⟩
 have hws:(placesN lv).map (fun p=>ws.getD p 0)=lv.map (·.2):=by
  unfold placesN
  rw [List.map_map]
  apply List.map_congr_left
  intro y hy
  obtain ⟨q,hq,rfl,h0⟩:=hmem y hy
  simp
 have hz:∀ p,p < ws.length→¬ 0 < ws.getD p 0→ws.getD p 0=0:=by
  intro p hp h
  have:=h3.getD p hp
  omega
 have hpl:(placesN lv).length=lv.length:=by simp [placesN]
 by_cases n0:lv.length=0
 ·have hnil:=List.eq_nil_of_length_eq_zero n0
  subst hnil
  have hno:∀ p,p < ws.length→¬ 0 < ws.getD p 0:=fun p hp h=>by have:=hps2 p hp h;simp [placesN] at this
  have hg:∀ p,p < ws.length→(List.replicate ws.length (0:Int)).getD p 0=0:=fun p hp=>by simp [List.getD,hp]
  unfold lensOf
  rw [if_pos (by simp)]
  refine ⟨by simp,fun p hp=>by rw [hg p hp];omega,fun p hp=>?_,fun p q hp hq h0=>absurd h0 (hno q hq),by rw [kraft_zero];simp,by rw [cost_zero];simp [leastL]⟩
  rw [hg p hp]
  exact ⟨fun h=>absurd h (hno p hp),fun h=>by omega⟩
 ·by_cases n1:lv.length=1
  ·obtain ⟨y,rfl⟩:=List.length_eq_one_iff.1 n1
   obtain ⟨q,hq,rfl,h0⟩:=hmem y (List.mem_singleton.2 rfl)
   have hon:∀ p,p < ws.length→0 < ws.getD p 0→p=q:=fun p hp h=>by simpa [placesN] using hps2 p hp h
   have e:lensOf [((q:Int),ws.getD q 0)] ws.length L=(List.replicate ws.length 0).set q 1:=by
    unfold lensOf
    rw [if_neg (by simp),if_pos (by simp)]
    simp
   have hg:∀ p,p < ws.length→((List.replicate ws.length (0:Int)).set q 1).getD p 0=if q=p then 1 else 0:=by
    intro p hp
    by_cases e:q=p
    ·subst e;rw [getD_set_eq _ _ _ (by simpa using hp),if_pos rfl]
    ·rw [getD_set_ne _ _ _ _ e,if_neg e];simp [List.getD,hp]
   rw [e]
   refine ⟨by simp,fun p hp=>by rw [hg p hp];split <;> omega,fun p hp=>?_,fun p r hp hr h0' hlt=>?_,?_,?_⟩
   ·rw [hg p hp]
    by_cases e:q=p
    ·subst e;rw [if_pos rfl];exact ⟨fun _=>by omega,fun _=>h0⟩
    ·rw [if_neg e];exact ⟨fun h=>absurd (hon p hp h).symm e,fun h=>by omega⟩
   ·have e1:=hon r hr h0'
    have e2:=hon p hp (by omega)
    subst e1;subst e2;omega
   ·rw [kraft_at [q] _ (by simp) (by simpa using hq) (fun p hp hpq=>by rw [hg p (by simpa using hp),if_neg (by intro e;exact hpq (by simp [e]))])]
    simp only [List.map_cons,List.map_nil,hg q hq,if_true,List.length_cons,List.length_nil]
    decide
   ·have hc:=cost_set ws (List.replicate ws.length 0) q (by simpa using hq) hq
    have h00:(List.replicate ws.length (0:Int)).getD q 0=0:=by simp [List.getD,hq]
    rw [h00,cost_zero] at hc
    simp only [Int.zero_add] at hc
    rw [hc]
    simp [leastL]
  ·have h2l:2≤lv.length:=by omega
   obtain ⟨ls,hls⟩:∃ ls,ls=lv.map (·.2):=⟨_,rfl⟩
   have hll:ls.length=lv.length:=by rw [hls];simp
   have hsl:Srd ls:=by rw [hls];exact srd_of hs.srt
   have hsm:∀ z∈ls,0≤z∧z≤1048576:=by
    intro z hz
    rw [hls] at hz
    obtain ⟨y,hy,rfl⟩:=List.mem_map.1 hz
    exact (leaf_place h3 hs y hy).1
   have hC:=cntF ls L hsl hsm (by omega) hL1.1 (by omega)
   obtain ⟨x,hx⟩:∃ x,x=cnt ls (L - 1) (2*ls.length - 2):=⟨_,rfl⟩
   rw [← hx] at hC
   obtain ⟨ps,hpse⟩:∃ ps,ps=placesN lv:=⟨_,rfl⟩
   have hnd:ps.Nodup:=by rw [hpse];exact nodup_places ws lv hs
   rw [← hpse] at hps hps2 hws hpl
   rw [← hls] at hws
   have e:lensOf lv ws.length L=bumps ps x L (List.replicate ws.length 0):=by
    unfold lensOf
    rw [if_neg n0,if_neg n1,← hls,← hpse,← hll]
    obtain ⟨M,rfl⟩:∃ M,L=M+1:=⟨L - 1,by omega⟩
    rw [addL_bumps,hx,Nat.add_sub_cancel]
   rw [e]
   obtain ⟨Z,hZ⟩:∃ Z,Z=bumps ps x L (List.replicate ws.length 0):=⟨_,rfl⟩
   rw [← hZ]
   have hZl:Z.length=ws.length:=by
    rw [hZ,← e]
    unfold lensOf
    rw [if_neg n0,if_neg n1,addL_len,List.length_replicate]
   have hZg:∀ p,p < ws.length→Z.getD p 0=((cntP ps x p L:Nat):Int):=by
    intro p hp
    rw [hZ,bumps_get _ _ _ _ _ (by simpa using hp)]
    simp [List.getD,hp]
   have hZj:∀ j,j < ps.length→Z.getD (ps.getD j 0) 0=((lenJ x j L:Nat):Int):=by
    intro j hj
    rw [hZg _ (hps _ (mem_of_get ps j hj)).1,cntP_len ps x j hnd hj]
   have hZ0:∀ p,p < ws.length→p ∉ ps→Z.getD p 0=0:=by
    intro p hp h
    rw [hZg p hp,cntP_zero ps x p h];rfl
   have hwj:∀ j,j < ps.length→ws.getD (ps.getD j 0) 0=ls.getD j 0:=by
    intro j hj
    rw [← hws];simp [List.getD,hj]
   refine ⟨hZl,?_,?_,?_,?_,?_⟩
   ·intro p hp
    by_cases hm:p∈ps
    ·obtain ⟨j,hj,rfl⟩:=get_of_mem hm
     rw [hZj j hj]
     have:=lenJ_le x j L;omega
    ·rw [hZ0 p hp hm];omega
   ·intro p hp
    by_cases hm:p∈ps
    ·have h5:=(hps p hm).2
     obtain ⟨j,hj,rfl⟩:=get_of_mem hm
     rw [hZj j hj]
     have:=hC.one j (by omega)
     exact ⟨fun _=>by omega,fun _=>h5⟩
    ·rw [hZ0 p hp hm]
     exact ⟨fun h=>absurd (hps2 p hp h) hm,fun h=>by omega⟩
   ·intro p q hp hq hq0 hlt
    obtain ⟨j,hj,rfl⟩:=get_of_mem (hps2 p hp (by omega))
    obtain ⟨k,hk,rfl⟩:=get_of_mem (hps2 q hq hq0)
    rw [hZj j hj,hZj k hk]
    rw [hwj j hj,hwj k hk] at hlt
    have hkj:k≤j:=by
     refine Nat.le_of_not_lt (fun h=>?_)
     have:=srd_get hsl (show j≤k by omega) (by omega)
     omega
    have:=lenJ_anti x hkj L
    omega
   ·rw [if_neg n0,if_neg n1,kraft_at ps Z hnd (fun p hp=>by rw [hZl];exact (hps p hp).1) (fun p hp hm=>hZ0 p (by rw [← hZl];exact hp) hm)]
    rw [sum_map_get _ (fun j=>2 ^ (15 - L)*2 ^ (L - lenJ x j L)) ps (fun j hj=>by
     rw [hZj j hj]
     have h5:=lenJ_le x j L
     have h6:=hC.one j (by omega)
     unfold kpart
     rw [if_pos (by omega),Int.toNat_natCast,pow_split _ L h5 hL1.2])]
    rw [sumN_mul,show ps.length=ls.length by omega,hC.sum,← Nat.pow_add,show 15 - L+L=15 by omega]
    rfl
   ·rw [hZ,cost_bumps ws ls ps x (fun p hp=>(hps p hp).1) hws L _ (by simp),cost_zero,← hls,hC.cost]
    omega
def arrC (zs:List Int):Array Value:=(zs.map (Value.int .i64)).toArray
theorem arrC_size (zs:List Int):(arrC zs).size=zs.length:=by simp [arrC]
theorem arrC_get (zs:List Int)(i:Nat)(h:i < zs.length):(arrC zs)[i]?=some (.int .i64 (zs.getD i 0)):=by simp [arrC,List.getD,h]
theorem arrC_set (zs:List Int)(i:Nat)(x:Int):(arrC zs).setIfInBounds i (.int .i64 x)=arrC (zs.set i x):=by
 simp [arrC,List.map_set]
structure Arr16 (B:Nat)(w:World)(zs:List Int):Prop where
 len:zs.length=16
 obj:w.heap[B]?=some (.cells (arrC zs) 194 (0,0))
theorem Arr16.cell {B:Nat}{w:World}{zs:List Int}(h:Arr16 B w zs)(i:Nat)(hi:i < 16):w.cell? ⟨B,i,none⟩=some (.int .i64 (zs.getD i 0)):=by
 rw [obj_cell h.obj i,arrC_get _ _ (by rw [h.len];exact hi)]
theorem Arr16.put {B:Nat}{w:World}{zs:List Int}(h:Arr16 B w zs)(i:Nat)(x:Int):Arr16 B (w.setCell ⟨B,i,none⟩ (.int .i64 x)) (zs.set i x):=
 ⟨by rw [List.length_set];exact h.len,by rw [obj_set h.obj i _,arrC_set]⟩
theorem Arr16.kept {S:Nat→Prop}{B:Nat}{w w':World}{zs:List Int}(h:Arr16 B w zs)(hk:Kept S w w')(hs:¬ S B):Arr16 B w' zs:=⟨h.len,hk.obj h.obj hs⟩
theorem Arr16.row {B:Nat}{w:World}{old:List Int}(h:Arr16 B w old)(zs:List Int)(hz:zs.length=16):Arr16 B (w.setRow B (arrC zs)) zs:=⟨hz,setRow_heap w B _ _ _ _ h.obj⟩
theorem Kept.setRow {S:Nat→Prop}{a b:World}(h:Kept S a b){B:Nat}(hp:S B∨a.heap.size≤B)(cs:Array Value):Kept S a (b.setRow B cs):=
 ⟨h.os,h.tape,h.output,by show _≤(b.heap.modify B _).size;rw [Array.size_modify];exact h.size,fun i hi hs=>(setRow_other b B i cs (fun e=>by rcases hp with hp | hp;exact hs (e ▸ hp);omega)).trans (h.block i hi hs)⟩
theorem store16 {B:Nat}{w:World}{old:List Int}(h:Arr16 B w old)(zs:List Int)(hz:zs.length=16):(storeCells ⟨B,0,none⟩ (arrC zs).toList).run Tryz.prog w = .ok () (w.setRow B (arrC zs)):=by
 have:=run_storeCells_from (P:=Tryz.prog) B 194 (arrC zs).toList 0 (arrC old) w h.obj (by simp [arrC,hz,h.len]) (fun v hv=>by
  simp [arrC] at hv
  obtain ⟨x,_,rfl⟩:=hv
  rfl)
 simpa using this
theorem results_cell_tmp {P:Program}{fn:Func}{p t:Tmp}{ty:TypeId}(h:fn.results=#[.cell p ty,.tmp t])(tmps:Array Value)(w:World)(g:Nat)(t':TypeId)(cs:Array Value)(fr:Nat × Nat)(d:TypeDesc)
  (hp:tmps.getD p undef = .pointer (some ⟨g,0,none⟩)) (hg:w.heap[g]?=some (.cells cs t' fr))
  (hu:P.underlying ty=some d) (hd:(match d with | .struct _ | .array _ _=>true | _=>false)=true) (hi:(P.info? ty).map (·.size)=some cs.size):
  (results fn tmps).run P w = .ok (.tuple #[.agg cs,tmps.getD t undef]) w:=by
 have hp':=hp
 simp only [Array.getD_eq_getD_getElem?] at hp' ⊢
 simp [results,h,hp',asAddr,run_loadVar_row w g t' ty cs fr d hg hu hd hi]
theorem info16:(Tryz.prog.info? 194).map (·.size)=some 16:=by kernel_rfl
def zer16:List Int:=List.replicate 16 0
def cntsL (ls:List Int):List Int:=(List.range 16).map (fun n:Nat=>((ls.count (n:Int):Nat):Int))
theorem cnts_nil:cntsL []=zer16:=by decide
theorem cnts_len (ls:List Int):(cntsL ls).length=16:=by simp [cntsL]
theorem cnts_get (ls:List Int)(n:Nat)(h:n < 16):(cntsL ls).getD n 0=((ls.count (n:Int):Nat):Int):=by simp [cntsL,List.getD,h]
theorem cnts_snoc (ls:List Int)(n:Nat)(h:n < 16):cntsL (ls++[(n:Int)])=(cntsL ls).set n ((cntsL ls).getD n 0+1):=by
 obtain ⟨v,hv⟩:∃ v,v=(cntsL ls).getD n 0+1:=⟨_,rfl⟩
 rw [← hv]
 rw [cnts_get _ _ h] at hv
 apply List.ext_getElem (by simp [cntsL])
 intro i h1 h2
 have hi:i < 16:=by simpa [cntsL] using h1
 rw [List.getElem_set]
 by_cases e:n=i
 ·subst e;rw [if_pos rfl,hv];simp [cntsL]
 ·rw [if_neg e]
  have h3:¬ (n:Int)=(i:Int):=by omega
  simp [cntsL,List.count_append,List.count_cons,h3]
theorem counts_calls (a:Option Addr)(c B:Nat)(ls:List Int)(w:World)(hr:RdI w B a ls)(hs:Small 15 ls)(hl:ls.length≤320):
  Calls Tryz.prog 133 #[.slice a ls.length c] w fun e w'=>e = .returned (.tuple #[.agg (arrC (cntsL ls)),.bool true])∧Kept NoB w w':=by
 have HR:=Hd hr;have HS:=Hd hs
 obtain ⟨n,hn⟩:∃ n,n=ls.length:=⟨_,rfl⟩
 have HN:=Hd hn
 rw [← hn] at hl ⊢
 clear hr hs hn
 go_enter Tryz.func133,Tryz.ntmps133
 go_wp2
 have hA2:Arr16 w.heap.size ((w.alloc (.cells (arrC zer16) 194)).alloc (.cells (arrC zer16) 194)) zer16:=⟨rfl,by
  rw [heap_alloc_old _ _ (by simp)];exact heap_alloc_new w _⟩
 have hA4:Arr16 (w.heap.size+1) ((w.alloc (.cells (arrC zer16) 194)).alloc (.cells (arrC zer16) 194)) (cntsL (ls.take 0)):=⟨cnts_len _,by
  rw [List.take_zero,cnts_nil];exact heap_alloc2_new w _ _⟩
 have HA2:=Hd hA2;have HA4:=Hd hA4
 have HK0:Hid (Kept NoB w ((w.alloc (.cells (arrC zer16) 194)).alloc (.cells (arrC zer16) 194))):=Hd (((Kept.refl _ _).alloc _).alloc _)
 clear hA2 hA4
 obtain ⟨G,hG⟩:∃ G,G=w.heap.size:=⟨_,rfl⟩
 rw [← hG] at HA2 HA4 ⊢
 have HG:=Hd hG
 clear hG
 go_loopw [13,6] (fun v13 _v6 wr=>∃ (j:Nat),v13 = .int .i64 (j:Int)∧j≤n∧Hid (Arr16 G wr zer16)∧Hid (Arr16 (G+1) wr (cntsL (ls.take j)))∧Hid (Kept NoB w wr)) (fun v13 _ _=>n - (intOf v13).toNat)
 case atStart=>exact ⟨0,rfl,by omega,HA2,HA4,HK0⟩
 case round=>
  clear HA2 HA4 HK0
  obtain ⟨j,rfl,hj,HA2,HA4,HK⟩:=hrel
  by_cases hlt:(j:Int) < n
  ·obtain ⟨g,off,rfl,_,hc0⟩:=HR.out j (by have:=HN.out;omega)
   have hc:=HK.out.cell hc0
   have hb:=HS.out.getD j (by have:=HN.out;omega)
   obtain ⟨z,hz⟩:∃ z:Nat,(z:Int)=ls.getD j 0:=⟨(ls.getD j 0).toNat,by omega⟩
   rw [← hz] at hc hb
   have hst:ls.take (j+1)=ls.take j++[(z:Int)]:=by
    rw [hz,List.take_succ_eq_append_getElem (by have:=HN.out;omega)];simp [List.getD,show j < ls.length by have:=HN.out;omega]
   have hz16:z < 16:=by omega
   have hcell:=HA4.out.cell z hz16
   have hcb:0≤(cntsL (ls.take j)).getD z 0∧(cntsL (ls.take j)).getD z 0≤320:=by
    rw [cnts_get _ _ hz16]
    have:=List.count_le_length (l:=ls.take j) (a:=(z:Int))
    rw [List.length_take] at this
    have:=HN.out
    omega
   have hsn:=cnts_snoc (ls.take j) z hz16
   rw [← hst] at hsn
   obtain ⟨x,hx⟩:∃ x,x=(cntsL (ls.take j)).getD z 0:=⟨_,rfl⟩
   rw [← hx] at hcell hcb hsn
   have hfz:wr.frozen? ⟨G+1,z,none⟩=false:=obj_free HA4.out.obj z
   have hput:=HA4.out.put z (x+1)
   rw [← hsn] at hput
   have hkp:Kept NoB w (wr.setCell ⟨G+1,z,none⟩ (.int .i64 (x+1))):=Kept.setCell (p:=⟨G+1,z,none⟩) HK.out (.inr (by rw [← HG.out];simp)) _
   have hA2':Arr16 G (wr.setCell ⟨G+1,z,none⟩ (.int .i64 (x+1))) zer16:=HA2.out.kept (S:=fun k=>k=G+1) (Kept.setCell (S:=fun k=>k=G+1) (p:=⟨G+1,z,none⟩) (Kept.refl _ wr) (.inl rfl) _) (by omega)
   have HP:=Hd hput;have HKp:=Hd hkp;have HA2n:=Hd hA2'
   clear hz hst hsn hput hkp hx hc0 hA2'
   go_wp2
   go_roundw
   case rel=>exact ⟨j+1,by go_num,by omega,HA2n,HP,HKp⟩
   case measure=>simp [intOf];omega
  ·have hjn:j=n:=by omega
   subst hjn
   have hfin:=HA4.out
   rw [List.take_of_length_le (by have:=HN.out;omega)] at hfin
   have HF:=Hd hfin
   clear hfin HA4
   have hsz:(arrC (cntsL ls)).size=16:=by rw [arrC_size,HF.out.len]
   have hst:=store16 HA2.out (cntsL ls) HF.out.len
   have HF2:=Hd (HA2.out.row (cntsL ls) HF.out.len)
   have HK2:=Hd (HK.out.setRow (B:=G) (.inr (by rw [← HG.out];exact Nat.le_refl _)) (arrC (cntsL ls)))
   go_wp2_with (refine wpList_load_row rfl 194 (.tmp 4) rfl (G+1) rfl 194 (arrC (cntsL ls)) (0,0) (.array 16 3) HF.out.obj Tryz.underlying194 rfl (by rw [arrC_size,HF.out.len];exact info16) ?_)
   refine bodyPost_ret (results_cell_tmp rfl _ _ G 194 (arrC (cntsL ls)) (0,0) (.array 16 3) rfl HF2.out.obj Tryz.underlying194 rfl (by rw [hsz];exact info16)) rfl ?_
   exact ⟨rfl,HK2.out⟩
end Go.Proofs.YtfmjfgmbjdhogaaGreatDoor
