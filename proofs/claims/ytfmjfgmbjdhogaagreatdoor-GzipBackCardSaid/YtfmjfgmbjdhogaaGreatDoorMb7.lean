import Derived.Test.YtfmjfgmbjdhogaaGreatDoorMb6
import Derived.Deep.DeepCutAuto
import Derived.Deep.CutBlock
set_option linter.unusedVariables false
set_option linter.unusedSimpArgs false
set_option maxRecDepth 20000
set_option maxHeartbeats 8000000
namespace Go.Proofs.YtfmjfgmbjdhogaaGreatDoor
open Go.RowKit
def Bef (x y:Lf):Prop:=x.2 < y.2∨(x.2=y.2∧x.1 < y.1)
theorem Bef.trans {x y z:Lf}(h:Bef x y)(k:Bef y z):Bef x z:=by unfold Bef at *;omega
theorem Bef.asymm {x y:Lf}(h:Bef x y)(k:Bef y x):False:=by unfold Bef at *;omega
def Cross (L R:List Lf):Prop:=∀ x∈L,∀ y∈R,x.1 < y.1
theorem app_at (A R q:List Lf)(t:Nat)(h:t < R.length):(A++(R++q)).getD (A.length+t) (0,0)=R.getD t (0,0):=by
 rw [List.getD,List.getD,List.getElem?_append_right (by omega),show A.length+t - A.length=t by omega,List.getElem?_append_left h]
theorem getD_mem (R:List Lf)(t:Nat)(h:t < R.length):R.getD t (0,0)∈R:=by
 have:R.getD t (0,0)=R[t]:=by simp [List.getD,h]
 rw [this];exact List.getElem_mem h
theorem snoc_of (R:List Lf)(k:Nat)(h:R.length=k+1):∃ S,R=S++[R.getD k (0,0)]:=by
 refine ⟨R.take k,?_⟩
 have h2:R.getD k (0,0)=R[k]'(by omega):=by simp [List.getD,h]
 rw [h2,← List.take_succ_eq_append_getElem (by omega),List.take_of_length_le (by omega)]
theorem last_bef {R:List Lf}(hs:R.Pairwise Bef)(k:Nat)(h:R.length=k+1):∀ u∈R,u=R.getD k (0,0)∨Bef u (R.getD k (0,0)):=by
 obtain ⟨S,hS⟩:=snoc_of R k h
 generalize R.getD k (0,0)=z at hS ⊢
 subst hS
 intro u hu
 rcases List.mem_append.1 hu with hu | hu
 ·exact .inr ((List.pairwise_append.1 hs).2.2 u hu z (List.mem_singleton.2 rfl))
 ·exact .inl (List.mem_singleton.1 hu)
theorem first_bef {R:List Lf}(hs:R.Pairwise Bef)(h:0 < R.length):∀ u∈R,u=R.getD 0 (0,0)∨Bef (R.getD 0 (0,0)) u:=by
 cases R with
 | nil=>simp at h
 | cons y r=>
  intro u hu
  rcases List.mem_cons.1 hu with rfl | hu
  ·exact .inl rfl
  ·exact .inr ((List.pairwise_cons.1 hs).1 u hu)
theorem all_bef {R:List Lf}{x:Lf}(hs:R.Pairwise Bef)(h:∀ k,R.length=k+1→Bef (R.getD k (0,0)) x):∀ u∈R,Bef u x:=by
 intro u hu
 obtain ⟨k,hk⟩:∃ k,R.length=k+1:=⟨R.length - 1,by have:=List.length_pos_of_mem hu;omega⟩
 rcases last_bef hs k hk u hu with rfl | h1
 ·exact h k hk
 ·exact h1.trans (h k hk)
theorem all_aft {R:List Lf}{x:Lf}(hs:R.Pairwise Bef)(h:0 < R.length→Bef x (R.getD 0 (0,0))):∀ u∈R,Bef x u:=by
 intro u hu
 have hk:=List.length_pos_of_mem hu
 rcases first_bef hs hk u hu with rfl | h1
 ·exact h hk
 ·exact (h hk).trans h1
theorem ins_srt {x:Lf}{R1 R2:List Lf}(hs:(R1++R2).Pairwise Bef)(h1:∀ u∈R1,Bef u x)(h2:∀ u∈R2,Bef x u):(R1++x :: R2).Pairwise Bef:=by
 rw [List.pairwise_append] at hs ⊢
 obtain ⟨a,b,c⟩:=hs
 refine ⟨a,List.pairwise_cons.2 ⟨h2,b⟩,?_⟩
 intro u hu v hv
 rcases List.mem_cons.1 hv with rfl | hv
 ·exact h1 u hu
 ·exact c u hu v hv
theorem join_srt {A B:List Lf}(ha:A.Pairwise Bef)(hb:B.Pairwise Bef)(h:∀ u∈A,∀ v∈B,Bef u v):(A++B).Pairwise Bef:=List.pairwise_append.2 ⟨ha,hb,h⟩
structure SrtP (S X:List Lf):Prop where
 perm:S.Perm X
 srt:S.Pairwise Bef
theorem SrtP.len {S X:List Lf}(h:SrtP S X):S.length=X.length:=h.perm.length_eq
theorem srtP_eq:∀ {S T X:List Lf},SrtP S X→SrtP T X→S=T
 | [],T,X,h,k=>by
  have:=h.len;have h2:=k.len
  exact (List.eq_nil_of_length_eq_zero (by simp at this;omega)).symm
 | s :: S,[],X,h,k=>by
  have:=h.len;have h2:=k.len
  simp at this h2;omega
 | s :: S,t :: T,X,h,k=>by
  have hp:(s :: S).Perm (t :: T):=h.perm.trans k.perm.symm
  have e:s=t:=by
   have m1:s∈t :: T:=hp.mem_iff.1 List.mem_cons_self
   have m2:t∈s :: S:=hp.mem_iff.2 List.mem_cons_self
   rcases List.mem_cons.1 m1 with e | m1
   ·exact e
   ·rcases List.mem_cons.1 m2 with e | m2
    ·exact e.symm
    ·exact ((Bef.asymm ((List.pairwise_cons.1 h.srt).1 t m2) ((List.pairwise_cons.1 k.srt).1 s m1))).elim
  subst e
  rw [srtP_eq (S:=S) (T:=T) (X:=T) ⟨hp.cons_inv,(List.pairwise_cons.1 h.srt).2⟩ ⟨List.Perm.refl _,(List.pairwise_cons.1 k.srt).2⟩]
theorem sym_split {L R:List Lf}(hL:L.Pairwise Bef)(hR:R.Pairwise Bef){p q D:List Lf}{a m b mid lo hi s:Nat}(hD:D=p++(L++(R++q)))(ha:p.length=a)(hm:a+L.length=m)(hb:m+R.length=b)
  (hmid:mid=(a+b) / 2) (hlo:(mid < m∧lo=mid+m - b∧hi=mid)∨(m≤mid∧lo=a∧hi=m)) (h1:lo≤s) (h2:s≤hi) (hl1:1≤L.length) (hr1:1≤R.length)
  (f1:s=lo∨Bef (D.getD (s - 1) (0,0)) (D.getD (mid+m - 1 - (s - 1)) (0,0))) (f2:s=hi∨Bef (D.getD (mid+m - 1 - s) (0,0)) (D.getD s (0,0))):
  ∃ L1 L2 R1 R2,L=L1++L2∧R=R1++R2∧a+L1.length=s∧s+L2.length=m∧m+R1.length=mid+m - s∧mid+m - s+R2.length=b∧L1.length+R1.length+a=mid∧(∀ u∈L1++R1,∀ v∈L2++R2,Bef u v):=by
 have hs1:a≤s:=by rcases hlo with h | h <;> omega
 have hs2:s≤m:=by rcases hlo with h | h <;> omega
 have hs3:m≤mid+m - s:=by rcases hlo with h | h <;> omega
 have hs4:mid+m - s≤b:=by rcases hlo with h | h <;> omega
 obtain ⟨L1,L2,rfl,e1,e2⟩:=split_at L (s - a) L.length rfl (by omega)
 obtain ⟨R1,R2,rfl,e3,e4⟩:=split_at R (mid - s) R.length rfl (by omega)
 simp only [List.length_append] at hm hb e2 e4 hl1 hr1
 have gL:∀ t,t < L1.length→D.getD (a+t) (0,0)=L1.getD t (0,0):=by
  intro t ht
  have:=app_at p L1 (L2++((R1++R2)++q)) t ht
  rw [ha] at this
  rw [hD,← this];simp [List.append_assoc]
 have gL2:∀ t,t < L2.length→D.getD (s+t) (0,0)=L2.getD t (0,0):=by
  intro t ht
  have:=app_at (p++L1) L2 ((R1++R2)++q) t ht
  rw [List.length_append,ha,show a+L1.length=s by omega] at this
  rw [hD,← this];simp [List.append_assoc]
 have gR:∀ t,t < R1.length→D.getD (m+t) (0,0)=R1.getD t (0,0):=by
  intro t ht
  have:=app_at (p++(L1++L2)) R1 (R2++q) t ht
  rw [List.length_append,List.length_append,ha,show a+(L1.length+L2.length)=m by omega] at this
  rw [hD,← this];simp [List.append_assoc]
 have gR2:∀ t,t < R2.length→D.getD (m+R1.length+t) (0,0)=R2.getD t (0,0):=by
  intro t ht
  have:=app_at (p++(L1++L2)++R1) R2 q t ht
  rw [List.length_append,List.length_append,List.length_append,ha,show a+(L1.length+L2.length)+R1.length=m+R1.length by omega] at this
  rw [hD,← this];simp [List.append_assoc]
 obtain ⟨hL1,hL2,hL12⟩:=List.pairwise_append.1 hL
 obtain ⟨hR1,hR2,hR12⟩:=List.pairwise_append.1 hR
 refine ⟨L1,L2,R1,R2,rfl,rfl,by omega,by omega,by omega,by omega,by omega,?_⟩
 intro u hu v hv
 rcases List.mem_append.1 hu with hu | hu
 ·rcases List.mem_append.1 hv with hv | hv
  ·exact hL12 u hu v hv
  ·have k1:=List.length_pos_of_mem hu
   have k2:=List.length_pos_of_mem hv
   have f:=f1.resolve_left (by rcases hlo with h | h <;> omega)
   have g1:=gL (L1.length - 1) (by omega)
   have g2:=gR2 0 k2
   rw [show a+(L1.length - 1)=s - 1 by omega] at g1
   rw [show m+R1.length+0=mid+m - 1 - (s - 1) by omega] at g2
   rw [g1,g2] at f
   have q1:u=L1.getD (L1.length - 1) (0,0)∨Bef u (L1.getD (L1.length - 1) (0,0)):=last_bef hL1 _ (by omega) u hu
   have q2:=first_bef hR2 k2 v hv
   rcases q1 with rfl | q1 <;> rcases q2 with rfl | q2
   ·exact f
   ·exact f.trans q2
   ·exact q1.trans f
   ·exact (q1.trans f).trans q2
 ·rcases List.mem_append.1 hv with hv | hv
  ·have k1:=List.length_pos_of_mem hu
   have k2:=List.length_pos_of_mem hv
   have f:=f2.resolve_left (by rcases hlo with h | h <;> omega)
   have g1:=gR (R1.length - 1) (by omega)
   have g2:=gL2 0 k2
   rw [show m+(R1.length - 1)=mid+m - 1 - s by omega] at g1
   rw [Nat.add_zero] at g2
   rw [g1,g2] at f
   have q1:u=R1.getD (R1.length - 1) (0,0)∨Bef u (R1.getD (R1.length - 1) (0,0)):=last_bef hR1 _ (by omega) u hu
   have q2:=first_bef hL2 k2 v hv
   rcases q1 with rfl | q1 <;> rcases q2 with rfl | q2
   ·exact f
   ·exact f.trans q2
   ·exact q1.trans f
   ·exact (q1.trans f).trans q2
  ·exact hR12 u hu v hv
theorem i64_succ (a d:Nat)(h:a+1=d)(ha:d≤100000):IntKind.i64.wrap ((a:Int)+1)=(d:Int):=by rw [IntWalk.i64_in _ (by omega)];omega
theorem i64_pred (a d:Nat)(h:d+1=a)(ha:a≤100000):IntKind.i64.wrap ((a:Int) - 1)=(d:Int):=by rw [IntWalk.i64_in _ (by omega)];omega
theorem getD_l (A B:List Lf)(t:Nat)(h:t < A.length):(A++B).getD t (0,0)=A.getD t (0,0):=by rw [List.getD,List.getD,List.getElem?_append_left h]
theorem getD_r (A B:List Lf)(t s:Nat)(h:A.length+s=t):(A++B).getD t (0,0)=B.getD s (0,0):=by rw [List.getD,List.getD,List.getElem?_append_right (by omega),show t - A.length=s by omega]
theorem cmp_two (u v:Lf):∃ k:Int,(decide (k < 0)=decide (u.2 < v.2))∧∀ w,Calls Tryz.prog 182 #[.agg #[.int .i64 u.1,.int .i64 u.2],.agg #[.int .i64 v.1,.int .i64 v.2]] w fun e w'=>e = .returned (.int .i64 k)∧Kept NoB w w':=by
 refine ⟨cmpI u.2 v.2,?_,fun w=>less_any u.1 v.1 u.2 v.2 w⟩
 unfold cmpI
 by_cases h:u.2 < v.2
 ·rw [if_pos h];simp [h]
 ·rw [if_neg h];by_cases h2:v.2 < u.2
  ·rw [if_pos h2];simp [h]
  ·rw [if_neg h2];simp [h]
theorem sym_left (G n c a m b:Nat)(p R q:List Lf)(x:Lf)(w:World)(h:SrtSt G n c w w (p++([x]++(R++q))))(ha:p.length=a)(hm:a+1=m)(hb:m+R.length=b)(hR:R.Pairwise Bef)(hc:∀ y∈R,x.1 < y.1)(hn:n≤1000):
  Calls Tryz.prog 190 #[.slice (some ⟨G,0,none⟩) n c,.int .i64 (a:Int),.int .i64 (m:Int),.int .i64 (b:Int),.func (.func 182) #[] #[]] w fun e w'=>e = .returned (.tuple #[])∧∃ S,SrtP S ([x]++R)∧SrtSt G n c w w' (p++(S++q)):=by
 have hlen:=h.len
 have hbn:b≤n:=by simp at hlen;omega
 obtain ⟨D,hD⟩:∃ D,D=p++([x]++(R++q)):=⟨_,rfl⟩
 rw [← hD] at h
 have gx:D.getD a (0,0)=x:=by
  rw [hD,← ha];simp [List.getD]
 have gR:∀ t,t < R.length→D.getD (m+t) (0,0)=R.getD t (0,0):=by
  intro t ht
  have:=app_at (p++[x]) R q t ht
  rw [List.length_append,ha,List.length_singleton,hm] at this
  rw [hD,← this];simp [List.append_assoc]
 have hcr:∀ t,m≤t→t < b→x.1 < (D.getD t (0,0)).1:=by
  intro t h1 h2
  have:=gR (t - m) (by omega)
  rw [show m+(t - m)=t by omega] at this
  rw [this]
  exact hc _ (getD_mem R _ (by omega))
 have HS0:=Hd h;have HA:=Hd ha;have HD:=Hd hD;have HX:=Hd gx;have HG:=Hd gR;have HC:=Hd hcr;have HR:=Hd hR;have HB:=Hd hb
 have e1:=i64_sub m a 1 (by omega) (by omega)
 have hmn:m≤b:=by omega
 clear h ha hlen hD gx gR hcr hR hc hb
 go_enter Tryz.func190,Tryz.ntmps190
 go_wp2
 go_loopw [10,11,12] (fun v10 v11 _v12 wr=>∃ (i j:Nat),v10 = .int .i64 (i:Int)∧v11 = .int .i64 (j:Int)∧m≤i∧i≤j∧j≤b∧Hid (i=m∨Bef (D.getD (i - 1) (0,0)) x)∧Hid (j=b∨Bef x (D.getD j (0,0)))∧Hid (SrtSt G n c w wr D)) (fun v10 v11 _ _=>(intOf v11).toNat - (intOf v10).toNat)
 case atStart=>exact ⟨m,b,rfl,rfl,by omega,by omega,by omega,Hd (.inl rfl),Hd (.inl rfl),HS0⟩
 case round=>
  obtain ⟨i,j,rfl,rfl,hmi,hij,hjb,HI,HJ,HS⟩:=hrel
  by_cases hlt:(i:Int) < j
  ·obtain ⟨h,hh⟩:∃ h,h=(i+j) / 2:=⟨_,rfl⟩
   have e2:((i:Int)+(j:Int)) / 2=(h:Int):=by omega
   have hh1:i≤h:=by omega
   have hh2:h < j:=by omega
   obtain ⟨d0,d1⟩:=HS.out.cell h (by omega)
   obtain ⟨d2,d3⟩:=HS.out.cell a (by omega)
   rw [HX.out] at d2 d3
   have hcy:=HC.out h (by omega) (by omega)
   obtain ⟨y,hy⟩:∃ y,y=D.getD h (0,0):=⟨_,rfl⟩
   rw [← hy] at d0 d1 hcy
   obtain ⟨k,hk,hless⟩:=cmp_two y x
   have HLs:=Hd hless;have HK:=Hd hk;have HY:=Hd hy;have HCY:=Hd hcy
   obtain ⟨x1,x2⟩:=x
   obtain ⟨y1,y2⟩:=y
   simp only at HLs
   have b1:(h:Int) < n:=by omega
   have b2:(a:Int) < n:=by omega
   have b3:h < n:=by omega
   have b4:a < n:=by omega
   have hk0:Kept NoB wr wr:=Kept.refl _ _
   have D0:∀ W:World,Kept NoB wr W→W.cell? ⟨G,h*2,none⟩=some (.int .i64 y1):=fun W hk=>hk.cell d0
   have D1:∀ W:World,Kept NoB wr W→W.cell? ⟨G,h*2+1,none⟩=some (.int .i64 y2):=fun W hk=>hk.cell d1
   have D2:∀ W:World,Kept NoB wr W→W.cell? ⟨G,a*2,none⟩=some (.int .i64 x1):=fun W hk=>hk.cell d2
   have D3:∀ W:World,Kept NoB wr W→W.cell? ⟨G,a*2+1,none⟩=some (.int .i64 x2):=fun W hk=>hk.cell d3
   clear hless hk hy hcy hh d0 d1 d2 d3
   go_upto_region 5 with fail
   go_region_held3 (fun W=>Kept NoB wr W) (first | assumption | exact Kept.drew (Kept.refl _ _) | exact Kept.drew (by assumption) | exact Kept.trans (by assumption) hkn)
    (first
     | (go_at_call 182;((with_reducible refine (HLs.out _).mono ?_);rintro e wn ⟨rfl,hkn⟩)))
   have hkw:Kept NoB wr wn:=by assumption
   have HSn:=Hd (HS.out.then hkw (fun _ h=>h))
   clear hkw hkn D0 D1 D2 D3 hk0 HS
   by_cases hc:y2 < x2
   ·have hd:k < 0:=of_decide_eq_true (by rw [HK.out];exact decide_eq_true hc)
    go_wp2
    go_roundw
    case rel=>exact ⟨h+1,j,by go_num,rfl,by omega,by omega,by omega,Hd (.inr (by rw [Nat.add_sub_cancel,← HY.out];exact .inl hc)),HJ,HSn⟩
    case measure=>simp [intOf];omega
   ·have hd:¬ k < 0:=of_decide_eq_false (by rw [HK.out];exact decide_eq_false hc)
    go_wp2
    go_roundw
    case rel=>exact ⟨i,h,rfl,rfl,by omega,by omega,by omega,HI,Hd (.inr (by rw [← HY.out];have:=HCY.out;unfold Bef;simp only at this ⊢;omega)),HSn⟩
    case measure=>simp [intOf];omega
  ·have hij2:i=j:=by omega
   subst hij2
   obtain ⟨R1,R2,hRR,hR1,hR2⟩:=split_at R (i - m) R.length rfl (by have:=HB.out;omega)
   have hsrt:(R1++x :: R2).Pairwise Bef:=by
    have hp:=HR.out
    rw [hRR] at hp
    have hp2:=List.pairwise_append.1 hp
    refine ins_srt hp ?_ ?_
    ·refine all_bef hp2.1 ?_
     intro k hk
     have f:=HI.out.resolve_left (by omega)
     have g:=HG.out k (by omega)
     rw [hRR,getD_l _ _ _ (by omega),show m+k=i - 1 by omega] at g
     rw [g] at f
     exact f
    ·refine all_aft hp2.2.1 ?_
     intro h0
     have f:=HJ.out.resolve_left (by have:=HB.out;omega)
     have g:=HG.out (i - m) (by omega)
     rw [hRR,getD_r R1 R2 _ 0 (by omega),show m+(i - m)=i by omega] at g
     rw [g] at f
     exact f
   have hperm:(R1++x :: R2).Perm (x :: R):=by rw [hRR];exact List.perm_middle
   have HFin:Hid (SrtP (R1++x :: R2) (x :: R)):=Hd ⟨hperm,hsrt⟩
   have hrow:SrtSt G n c w wr (p++([]++(x :: (R1++(R2++q))))):=by
    have:=HS.out
    rw [HD.out,hRR] at this
    simpa [List.append_assoc] using this
   have HRow:=Hd hrow;have HR1:=Hd hR1
   obtain ⟨e,he⟩:∃ e,e+1=i:=⟨i - 1,by omega⟩
   have e3:=i64_pred i e (by omega) (by omega)
   clear hRR hR1 hR2 hsrt hperm hrow HI HJ HR HG HC HS HS0 HX HD
   go_wp2
   go_loopw [13] (fun v13 wr=>∃ (k:Nat) (Ra Rb:List Lf),v13 = .int .i64 (k:Int)∧k≤e∧Hid (Ra.length+a=k∧R1=Ra++Rb)∧Hid (SrtSt G n c w wr (p++(Ra++(x :: (Rb++(R2++q))))))) (fun v13 _=>e - (intOf v13).toNat)
   case atStart=>exact ⟨a,[],R1,rfl,by omega,Hd ⟨by simp,rfl⟩,HRow⟩
   case round=>
    clear HRow
    obtain ⟨k,Ra,Rb,rfl,hke,HL,HS⟩:=hrel
    by_cases hlt3:(k:Int) < e
    ·have hl:=HL.out.2
     have hl2:=congrArg List.length hl
     rw [List.length_append,HR1.out] at hl2
     obtain ⟨y,Rc,rfl⟩:∃ y Rc,Rb=y :: Rc:=by
      cases Rb with
      | nil=>simp at hl2;have:=HL.out.1;omega
      | cons y Rc=>exact ⟨y,Rc,rfl⟩
     obtain ⟨t,ht⟩:∃ t,k+1=t:=⟨_,rfl⟩
     have hrow:SrtSt G n c w wr ((p++Ra)++x :: ([]++y :: (Rc++(R2++q)))):=by
      have:=HS.out
      simpa [List.append_assoc] using this
     obtain ⟨b5,b6,hst,d0,d1,d2,d3,hfr,hup,_⟩:=hrow.two (s:=k) (t:=t) (by rw [List.length_append,HA.out];have:=HL.out.1;omega) (by simpa using ht)
     obtain ⟨x1,x2⟩:=x
     obtain ⟨y1,y2⟩:=y
     have HF:=Hd hup
     have b1:=i64_succ k t (by omega) (by omega)
     have b3:(k:Int) < n:=by omega
     have b4:(t:Int) < n:=by omega
     have hst2:¬ k=t:=by omega
     have f0:=hfr (k*2)
     have f1:=hfr (k*2+1)
     have f2:=hfr (t*2)
     have f3:=hfr (t*2+1)
     have HT:=Hd ht
     clear ht hrow hup hfr hst hl hl2
     go_upto_region 11 with fail
     go_region
     have HF2:Hid (SrtSt G n c w _ _):=Hd (HF.out.then (Kept.drew (Kept.refl NoB _)) (fun _ h=>h))
     clear HF d0 d1 d2 d3 f0 f1 f2 f3
     go_wp2
     go_roundw
     case rel=>
      refine ⟨t,Ra++[(y1,y2)],Rc,by go_num,by have:=HT.out;omega,Hd ⟨by rw [List.length_append];have:=HL.out.1;have:=HT.out;simp;omega,by rw [HL.out.2];simp⟩,Hd ?_⟩
      have:=HF2.out
      simpa [List.append_assoc] using this
     case measure=>have:=HT.out;simp [intOf];omega
    ·have hl:=HL.out.2
     have hl2:=congrArg List.length hl
     rw [List.length_append,HR1.out] at hl2
     have hRb:Rb=[]:=List.eq_nil_of_length_eq_zero (by have:=HL.out.1;omega)
     subst hRb
     go_wp2
     refine bodyPost_ret (results_none rfl _ _ _) rfl ?_
     refine ⟨rfl,R1++x :: R2,HFin.out,?_⟩
     have:=HS.out
     rw [HL.out.2]
     simpa [List.append_assoc] using this
theorem sym_right (G n c a m b:Nat)(p L q:List Lf)(y:Lf)(w:World)(h:SrtSt G n c w w (p++(L++([y]++q))))(ha:p.length=a)(hm:a+L.length=m)(hb:m+1=b)(hL2:2≤L.length)(hL:L.Pairwise Bef)(hc:∀ x∈L,x.1 < y.1)(hn:n≤1000):
  Calls Tryz.prog 190 #[.slice (some ⟨G,0,none⟩) n c,.int .i64 (a:Int),.int .i64 (m:Int),.int .i64 (b:Int),.func (.func 182) #[] #[]] w fun e w'=>e = .returned (.tuple #[])∧∃ S,SrtP S (L++[y])∧SrtSt G n c w w' (p++(S++q)):=by
 have hlen:=h.len
 have hbn:b≤n:=by simp at hlen;omega
 obtain ⟨D,hD⟩:∃ D,D=p++(L++([y]++q)):=⟨_,rfl⟩
 rw [← hD] at h
 have gL:∀ t,t < L.length→D.getD (a+t) (0,0)=L.getD t (0,0):=by
  intro t ht
  have:=app_at p L ([y]++q) t ht
  rw [ha] at this
  rw [hD,← this]
 have gy:D.getD m (0,0)=y:=by
  have:=app_getD (p++L) q y
  rw [List.length_append,ha,hm] at this
  have e:D=(p++L)++y :: q:=by rw [hD];simp
  rw [e];exact this
 have hcr:∀ t,a≤t→t < m→(D.getD t (0,0)).1 < y.1:=by
  intro t h1 h2
  have:=gL (t - a) (by omega)
  rw [show a+(t - a)=t by omega] at this
  rw [this]
  exact hc _ (getD_mem L _ (by omega))
 obtain ⟨l,hl⟩:∃ l,l=L.length:=⟨_,rfl⟩
 rw [← hl] at hm hL2
 have HS0:=Hd h;have HA:=Hd ha;have HD:=Hd hD;have HY:=Hd gy;have HG:=Hd gL;have HC:=Hd hcr;have HL:=Hd hL;have HLl:=Hd hl
 have e1:=i64_sub m a l (by omega) (by omega)
 have e2:((l:Int) == 1)=false:=by simp;omega
 have e3:IntKind.i64.wrap ((b:Int) - (m:Int))=1:=by rw [IntWalk.i64_in _ (by omega)];omega
 clear h ha hlen hD gy gL hcr hL hc hl
 go_enter Tryz.func190,Tryz.ntmps190
 go_wp2
 go_loopw [14,15,16] (fun v14 v15 _v16 wr=>∃ (i j:Nat),v14 = .int .i64 (i:Int)∧v15 = .int .i64 (j:Int)∧a≤i∧i≤j∧j≤m∧Hid (i=a∨Bef (D.getD (i - 1) (0,0)) y)∧Hid (j=m∨Bef y (D.getD j (0,0)))∧Hid (SrtSt G n c w wr D)) (fun v14 v15 _ _=>(intOf v15).toNat - (intOf v14).toNat)
 case atStart=>exact ⟨a,m,rfl,rfl,by omega,by omega,by omega,Hd (.inl rfl),Hd (.inl rfl),HS0⟩
 case round=>
  clear e1 e2 e3
  obtain ⟨i,j,rfl,rfl,hai,hij,hjm,HI,HJ,HS⟩:=hrel
  by_cases hlt:(i:Int) < j
  ·obtain ⟨h,hh⟩:∃ h,h=(i+j) / 2:=⟨_,rfl⟩
   have e2:((i:Int)+(j:Int)) / 2=(h:Int):=by omega
   have hh1:i≤h:=by omega
   have hh2:h < j:=by omega
   obtain ⟨d0,d1⟩:=HS.out.cell h (by omega)
   obtain ⟨d2,d3⟩:=HS.out.cell m (by omega)
   rw [HY.out] at d2 d3
   have hcx:=HC.out h (by omega) (by omega)
   obtain ⟨x,hx⟩:∃ x,x=D.getD h (0,0):=⟨_,rfl⟩
   rw [← hx] at d0 d1 hcx
   obtain ⟨k,hk,hless⟩:=cmp_two y x
   have HLs:=Hd hless;have HK:=Hd hk;have HX:=Hd hx;have HCX:=Hd hcx
   obtain ⟨x1,x2⟩:=x
   obtain ⟨y1,y2⟩:=y
   simp only at HLs
   have b1:(h:Int) < n:=by omega
   have b2:(m:Int) < n:=by omega
   have b3:h < n:=by omega
   have b4:m < n:=by omega
   have hk0:Kept NoB wr wr:=Kept.refl _ _
   have D0:∀ W:World,Kept NoB wr W→W.cell? ⟨G,h*2,none⟩=some (.int .i64 x1):=fun W hk=>hk.cell d0
   have D1:∀ W:World,Kept NoB wr W→W.cell? ⟨G,h*2+1,none⟩=some (.int .i64 x2):=fun W hk=>hk.cell d1
   have D2:∀ W:World,Kept NoB wr W→W.cell? ⟨G,m*2,none⟩=some (.int .i64 y1):=fun W hk=>hk.cell d2
   have D3:∀ W:World,Kept NoB wr W→W.cell? ⟨G,m*2+1,none⟩=some (.int .i64 y2):=fun W hk=>hk.cell d3
   clear hless hk hx hcx hh d0 d1 d2 d3
   by_cases hc:y2 < x2
   ·have hd:decide (k < 0)=true:=by rw [HK.out];exact decide_eq_true hc
    go_upto_region 17 with fail
    go_region_held3 (fun W=>Kept NoB wr W) (first | assumption | exact Kept.drew (Kept.refl _ _) | exact Kept.drew (by assumption) | exact Kept.trans (by assumption) hkn)
     (first
      | (go_at_call 182;((with_reducible refine (HLs.out _).mono ?_);rintro e wn ⟨rfl,hkn⟩)))
    have hkw:Kept NoB wr wn:=by assumption
    have HSn:=Hd (HS.out.then hkw (fun _ h=>h))
    clear hkw hkn D0 D1 D2 D3 hk0 HS
    go_wp2
    go_roundw
    case rel=>exact ⟨i,h,rfl,rfl,by omega,by omega,by omega,HI,Hd (.inr (by rw [← HX.out];exact .inl hc)),HSn⟩
    case measure=>simp [intOf];omega
   ·have hd:decide (k < 0)=false:=by rw [HK.out];exact decide_eq_false hc
    go_upto_region 17 with fail
    go_region_held3 (fun W=>Kept NoB wr W) (first | assumption | exact Kept.drew (Kept.refl _ _) | exact Kept.drew (by assumption) | exact Kept.trans (by assumption) hkn)
     (first
      | (go_at_call 182;((with_reducible refine (HLs.out _).mono ?_);rintro e wn ⟨rfl,hkn⟩)))
    have hkw:Kept NoB wr wn:=by assumption
    have HSn:=Hd (HS.out.then hkw (fun _ h=>h))
    clear hkw hkn D0 D1 D2 D3 hk0 HS
    go_wp2
    go_roundw
    case rel=>exact ⟨h+1,j,by go_num,rfl,by omega,by omega,by omega,Hd (.inr (by rw [Nat.add_sub_cancel,← HX.out];have:=HCX.out;unfold Bef;simp only at this ⊢;omega)),HJ,HSn⟩
    case measure=>simp [intOf];omega
  ·have hij2:i=j:=by omega
   subst hij2
   obtain ⟨L1,L2,hLL,hl1,hl2⟩:=split_at L (i - a) L.length rfl (by have:=HLl.out;omega)
   rw [← HLl.out] at hl2
   have hsrt:(L1++y :: L2).Pairwise Bef:=by
    have hp:=HL.out
    rw [hLL] at hp
    have hp2:=List.pairwise_append.1 hp
    refine ins_srt hp ?_ ?_
    ·refine all_bef hp2.1 ?_
     intro k hk
     have f:=HI.out.resolve_left (by omega)
     have g:=HG.out k (by have:=HLl.out;omega)
     rw [hLL,getD_l _ _ _ (by omega),show a+k=i - 1 by omega] at g
     rw [g] at f
     exact f
    ·refine all_aft hp2.2.1 ?_
     intro h0
     have f:=HJ.out.resolve_left (by omega)
     have g:=HG.out (i - a) (by have:=HLl.out;omega)
     rw [hLL,getD_r L1 L2 _ 0 (by omega),show a+(i - a)=i by omega] at g
     rw [g] at f
     exact f
   have hperm:(L1++y :: L2).Perm (L++[y]):=by
    rw [hLL]
    exact List.perm_middle.trans (List.perm_append_singleton y (L1++L2)).symm
   have HFin:Hid (SrtP (L1++y :: L2) (L++[y])):=Hd ⟨hperm,hsrt⟩
   have hrow:SrtSt G n c w wr (p++(L1++(L2++(y :: ([]++q))))):=by
    have:=HS.out
    rw [HD.out,hLL] at this
    simpa [List.append_assoc] using this
   have HRow:=Hd hrow;have HL1:=Hd hl1;have HL2:=Hd hl2
   clear hLL hl1 hl2 hsrt hperm hrow HI HJ HL HG HC HS HS0 HD HY HLl
   go_wp2
   go_loopw [17] (fun v17 wr=>∃ (k:Nat) (La Lb:List Lf),v17 = .int .i64 (k:Int)∧i≤k∧k≤m∧Hid (La.length+i=k∧L2=La++Lb)∧Hid (SrtSt G n c w wr (p++(L1++(La++(y :: (Lb++q))))))) (fun v17 _=>(intOf v17).toNat - i)
   case atStart=>exact ⟨m,L2,[],rfl,by omega,by omega,Hd ⟨by have:=HL2.out;omega,by simp⟩,HRow⟩
   case round=>
    clear HRow
    obtain ⟨k,La,Lb,rfl,hik,hkm,HL,HS⟩:=hrel
    by_cases hlt3:(i:Int) < k
    ·obtain ⟨t,ht⟩:∃ t,t+1=k:=⟨k - 1,by omega⟩
     obtain ⟨Lc,hLc⟩:=snoc_of La (t - i) (by have:=HL.out.1;omega)
     obtain ⟨x,hx⟩:∃ x,x=La.getD (t - i) (0,0):=⟨_,rfl⟩
     rw [← hx] at hLc
     subst hLc
     have hrow:SrtSt G n c w wr ((p++(L1++Lc))++x :: ([]++y :: (Lb++q))):=by
      have:=HS.out
      simpa [List.append_assoc] using this
     have hcl:Lc.length+i=t:=by have:=HL.out.1;simp at this;omega
     obtain ⟨b5,b6,hst,d0,d1,d2,d3,hfr,_,hdn⟩:=hrow.two (s:=t) (t:=k) (by simp only [List.length_append,HA.out,HL1.out];omega) (by simpa using ht)
     obtain ⟨x1,x2⟩:=x
     obtain ⟨y1,y2⟩:=y
     have HF:=Hd hdn
     have b1:=i64_pred k t (by omega) (by omega)
     have b3:(k:Int) < n:=by omega
     have b4:(t:Int) < n:=by omega
     have hst2:¬ k=t:=by omega
     have f0:=hfr (k*2)
     have f1:=hfr (k*2+1)
     have f2:=hfr (t*2)
     have f3:=hfr (t*2+1)
     have HT:=Hd ht;have HCl:=Hd hcl
     clear ht hrow hdn hfr hst hcl hx
     go_upto_region 23 with fail
     go_region
     have HF2:Hid (SrtSt G n c w _ _):=Hd (HF.out.then (Kept.drew (Kept.refl NoB _)) (fun _ h=>h))
     clear HF d0 d1 d2 d3 f0 f1 f2 f3
     go_wp2
     go_roundw
     case rel=>
      refine ⟨t,Lc,(x1,x2) :: Lb,by go_num,by have:=HCl.out;omega,by have:=HT.out;omega,Hd ⟨HCl.out,by rw [HL.out.2];simp⟩,Hd ?_⟩
      have:=HF2.out
      simpa [List.append_assoc] using this
     case measure=>have:=HT.out;simp [intOf];omega
    ·have hLa:La=[]:=List.eq_nil_of_length_eq_zero (by have:=HL.out.1;omega)
     subst hLa
     go_wp2
     refine bodyPost_ret (results_none rfl _ _ _) rfl ?_
     refine ⟨rfl,L1++y :: L2,HFin.out,?_⟩
     have:=HS.out
     rw [HL.out.2]
     simpa [List.append_assoc] using this
def SymC (N:Nat):Prop:=∀ (G n c a m b:Nat) (p L R q:List Lf) (w:World),b - a≤N→SrtSt G n c w w (p++(L++(R++q)))→p.length=a→a+L.length=m→m+R.length=b→1≤L.length→1≤R.length→
 L.Pairwise Bef→R.Pairwise Bef→Cross L R→n≤1000→
 Calls Tryz.prog 190 #[.slice (some ⟨G,0,none⟩) n c,.int .i64 (a:Int),.int .i64 (m:Int),.int .i64 (b:Int),.func (.func 182) #[] #[]] w fun e w'=>e = .returned (.tuple #[])∧∃ S,SrtP S (L++R)∧SrtSt G n c w w' (p++(S++q))
theorem perm_four (A B C D:List Lf):((A++C)++(B++D)).Perm ((A++B)++(C++D)):=by
 rw [List.append_assoc,List.append_assoc]
 refine List.Perm.append_left A ?_
 rw [← List.append_assoc,← List.append_assoc]
 exact List.Perm.append_right D List.perm_append_comm
theorem sym_mid (N G n c a m b:Nat)(p L R q:List Lf)(w:World)(ih:SymC N)(hN:b - a≤N+1)(h:SrtSt G n c w w (p++(L++(R++q))))(ha:p.length=a)(hm:a+L.length=m)(hb:m+R.length=b)(h1:2≤L.length)(h2:2≤R.length)
  (hL:L.Pairwise Bef) (hR:R.Pairwise Bef) (hc:Cross L R) (hn:n≤1000):
  Calls Tryz.prog 190 #[.slice (some ⟨G,0,none⟩) n c,.int .i64 (a:Int),.int .i64 (m:Int),.int .i64 (b:Int),.func (.func 182) #[] #[]] w fun e w'=>e = .returned (.tuple #[])∧∃ S,SrtP S (L++R)∧SrtSt G n c w w' (p++(S++q)):=by
 have hlen:=h.len
 have hbn:b≤n:=by simp at hlen;omega
 obtain ⟨D,hD⟩:∃ D,D=p++(L++(R++q)):=⟨_,rfl⟩
 rw [← hD] at h
 have gL:∀ t,t < L.length→D.getD (a+t) (0,0)=L.getD t (0,0):=by
  intro t ht
  have:=app_at p L (R++q) t ht
  rw [ha] at this
  rw [hD,← this]
 have gR:∀ t,t < R.length→D.getD (m+t) (0,0)=R.getD t (0,0):=by
  intro t ht
  have:=app_at (p++L) R q t ht
  rw [List.length_append,ha,hm] at this
  rw [hD,← this];simp [List.append_assoc]
 have hcr:∀ s t,a≤s→s < m→m≤t→t < b→(D.getD s (0,0)).1 < (D.getD t (0,0)).1:=by
  intro s t h1 h2 h3 h4
  have e1:=gL (s - a) (by omega)
  have e2:=gR (t - m) (by omega)
  rw [show a+(s - a)=s by omega] at e1
  rw [show m+(t - m)=t by omega] at e2
  rw [e1,e2]
  exact hc _ (getD_mem L _ (by omega)) _ (getD_mem R _ (by omega))
 obtain ⟨l,hl⟩:∃ l,l=L.length:=⟨_,rfl⟩
 obtain ⟨r,hr⟩:∃ r,r=R.length:=⟨_,rfl⟩
 rw [← hl] at hm h1
 rw [← hr] at hb h2
 obtain ⟨mid,hmid⟩:∃ mid,mid=(a+b) / 2:=⟨_,rfl⟩
 obtain ⟨n0,hn0⟩:∃ n0,n0=mid+m:=⟨_,rfl⟩
 obtain ⟨pp,hpp⟩:∃ pp,pp+1=n0:=⟨n0 - 1,by omega⟩
 obtain ⟨lo,hi,hlo⟩:∃ lo hi,(mid < m∧lo=mid+m - b∧hi=mid)∨(m≤mid∧lo=a∧hi=m):=by
  by_cases hc:mid < m
  ·exact ⟨_,_,.inl ⟨hc,rfl,rfl⟩⟩
  ·exact ⟨_,_,.inr ⟨by omega,rfl,rfl⟩⟩
 have HIh:=Hd ih;have HS0:=Hd h;have HA:=Hd ha;have HD:=Hd hD;have HC:=Hd hcr;have HL:=Hd hL;have HR:=Hd hR;have HLl:=Hd hl;have HRl:=Hd hr;have HCr:=Hd hc
 have HLo:=Hd hlo;have HMid:=Hd hmid;have HN0:=Hd hn0;have HPp:=Hd hpp
 have e1:=i64_sub m a l (by omega) (by omega)
 have e2:((l:Int) == 1)=false:=by simp;omega
 have e3:=i64_sub b m r (by omega) (by omega)
 have e4:((r:Int) == 1)=false:=by simp;omega
 have e5:((a:Int)+(b:Int)) / 2=(mid:Int):=by omega
 have e6:=i64_add mid m n0 (by omega) (by omega)
 clear ih h ha hlen hD gL gR hcr hL hR hc hl hr hlo hmid hn0 hpp
 go_enter Tryz.func190,Tryz.ntmps190
 go_upto_if 140 with fail
 go_cut [20,21] from 140 to 146 (fun v20 v21 wx=>v20 = .int .i64 (lo:Int)∧v21 = .int .i64 (hi:Int)∧w=wx)
 case first=>
  clear e1 e2 e3 e4 e5 e6
  rcases HLo.out with ⟨g1,g2,g3⟩ | ⟨g1,g2,g3⟩
  ·have e7:=i64_sub n0 b lo (by have:=HN0.out;have:=HMid.out;omega) (by have:=HN0.out;have:=HMid.out;omega)
   subst g3
   clear g2
   go_wp2
   go_meet
   exact ⟨rfl,rfl,rfl⟩
  ·have g4:¬ mid < m:=by omega
   subst g2
   subst g3
   go_wp2
   go_meet
   exact ⟨rfl,rfl,rfl⟩
 case rest=>
  obtain ⟨rfl,rfl,rfl⟩:=hcut
  have e7:=i64_pred n0 pp HPp.out (by have:=HN0.out;have:=HMid.out;omega)
  clear e1 e2 e3 e4 e5 e6
  have hlh:lo≤hi:=by have:=HMid.out;rcases HLo.out with h | h <;> omega
  go_wp2
  go_loopw [20,21,23] (fun v20 v21 _v23 wr=>∃ (i j:Nat),v20 = .int .i64 (i:Int)∧v21 = .int .i64 (j:Int)∧lo≤i∧i≤j∧j≤hi∧Hid (i=lo∨Bef (D.getD (i - 1) (0,0)) (D.getD (mid+m - 1 - (i - 1)) (0,0)))∧Hid (j=hi∨Bef (D.getD (mid+m - 1 - j) (0,0)) (D.getD j (0,0)))∧Hid (SrtSt G n c w wr D)) (fun v20 v21 _ _=>(intOf v21).toNat - (intOf v20).toNat)
  case atStart=>exact ⟨lo,hi,rfl,rfl,by omega,by omega,by omega,Hd (.inl rfl),Hd (.inl rfl),HS0⟩
  case round=>
   clear e7
   obtain ⟨i,j,rfl,rfl,hli,hij,hjh,HI,HJ,HS⟩:=hrel
   by_cases hlt:(i:Int) < j
   ·obtain ⟨h,hh⟩:∃ h,h=(i+j) / 2:=⟨_,rfl⟩
    have hi1:hi≤m:=by have:=HMid.out;rcases HLo.out with h | h <;> omega
    have e2:((i:Int)+(j:Int)) / 2=(h:Int):=by omega
    have hh1:i≤h:=by omega
    have hh2:h < j:=by omega
    obtain ⟨t,ht⟩:∃ t,t+h=pp:=⟨pp - h,by have:=HMid.out;have:=HN0.out;have:=HPp.out;rcases HLo.out with h | h <;> omega⟩
    have hta:a≤h∧m≤t∧t < b:=by have:=HMid.out;have:=HN0.out;have:=HPp.out;rcases HLo.out with h | h <;> omega
    have hte:t=mid+m - 1 - h:=by have:=HN0.out;have:=HPp.out;omega
    obtain ⟨d0,d1⟩:=HS.out.cell h (by omega)
    obtain ⟨d2,d3⟩:=HS.out.cell t (by omega)
    have hcx:=HC.out h t (by omega) (by omega) (by omega) (by omega)
    obtain ⟨x,hx⟩:∃ x,x=D.getD h (0,0):=⟨_,rfl⟩
    obtain ⟨y,hy⟩:∃ y,y=D.getD t (0,0):=⟨_,rfl⟩
    rw [← hx] at d0 d1 hcx
    rw [← hy] at d2 d3 hcx
    obtain ⟨k,hk,hless⟩:=cmp_two y x
    rw [hte] at hy
    have HLs:=Hd hless;have HK:=Hd hk;have HX:=Hd hx;have HY:=Hd hy;have HCX:=Hd hcx
    obtain ⟨x1,x2⟩:=x
    obtain ⟨y1,y2⟩:=y
    simp only at HLs
    have e3:=i64_sub pp h t ht (by have:=HN0.out;have:=HPp.out;have:=HMid.out;omega)
    have b1:(h:Int) < n:=by omega
    have b2:(t:Int) < n:=by omega
    have b3:h < n:=by omega
    have b4:t < n:=by omega
    have hk0:Kept NoB wr wr:=Kept.refl _ _
    have D0:∀ W:World,Kept NoB wr W→W.cell? ⟨G,h*2,none⟩=some (.int .i64 x1):=fun W hk=>hk.cell d0
    have D1:∀ W:World,Kept NoB wr W→W.cell? ⟨G,h*2+1,none⟩=some (.int .i64 x2):=fun W hk=>hk.cell d1
    have D2:∀ W:World,Kept NoB wr W→W.cell? ⟨G,t*2,none⟩=some (.int .i64 y1):=fun W hk=>hk.cell d2
    have D3:∀ W:World,Kept NoB wr W→W.cell? ⟨G,t*2+1,none⟩=some (.int .i64 y2):=fun W hk=>hk.cell d3
    clear hless hk hx hy hcx hh d0 d1 d2 d3 ht hte hta
    by_cases hc:y2 < x2
    ·have hd:decide (k < 0)=true:=by rw [HK.out];exact decide_eq_true hc
     go_upto_region 35 with fail
     go_region_held3 (fun W=>Kept NoB wr W) (first | assumption | exact Kept.drew (Kept.refl _ _) | exact Kept.drew (by assumption) | exact Kept.trans (by assumption) hkn)
      (first
       | (go_at_call 182;((with_reducible refine (HLs.out _).mono ?_);rintro e wn ⟨rfl,hkn⟩)))
     have hkw:Kept NoB wr wn:=by assumption
     have HSn:=Hd (HS.out.then hkw (fun _ h=>h))
     clear hkw hkn D0 D1 D2 D3 hk0 HS
     go_wp2
     go_roundw
     case rel=>exact ⟨i,h,rfl,rfl,by omega,by omega,by omega,HI,Hd (.inr (by rw [← HX.out,← HY.out];exact .inl hc)),HSn⟩
     case measure=>simp [intOf];omega
    ·have hd:decide (k < 0)=false:=by rw [HK.out];exact decide_eq_false hc
     go_upto_region 35 with fail
     go_region_held3 (fun W=>Kept NoB wr W) (first | assumption | exact Kept.drew (Kept.refl _ _) | exact Kept.drew (by assumption) | exact Kept.trans (by assumption) hkn)
      (first
       | (go_at_call 182;((with_reducible refine (HLs.out _).mono ?_);rintro e wn ⟨rfl,hkn⟩)))
     have hkw:Kept NoB wr wn:=by assumption
     have HSn:=Hd (HS.out.then hkw (fun _ h=>h))
     clear hkw hkn D0 D1 D2 D3 hk0 HS
     go_wp2
     go_roundw
     case rel=>exact ⟨h+1,j,by go_num,rfl,by omega,by omega,by omega,Hd (.inr (by rw [Nat.add_sub_cancel,← HX.out,← HY.out];have:=HCX.out;unfold Bef;simp only at this ⊢;omega)),HJ,HSn⟩
     case measure=>simp [intOf];omega
   ·have hij2:i=j:=by omega
    subst hij2
    have hsp:=sym_split HL.out HR.out HD.out HA.out (show a+L.length=m by rw [← HLl.out];exact hm) (show m+R.length=b by rw [← HRl.out];exact hb) HMid.out HLo.out hli hjh (by rw [← HLl.out];omega) (by rw [← HRl.out];omega) HI.out HJ.out
    obtain ⟨L1,L2,R1,R2,hLL,hRR,q1,q2,q3,q4,q5,hall⟩:=hsp
    obtain ⟨e,he⟩:∃ e,e+i=n0:=⟨n0 - i,by have:=HN0.out;omega⟩
    have hem:e=mid+m - i:=by have:=HN0.out;omega
    rw [← hem] at q3 q4
    have hrow:SrtSt G n c w wr (p++(L1++(L2++(R1++(R2++q))))):=by
     have:=HS.out
     rw [HD.out,hLL,hRR] at this
     simpa [List.append_assoc] using this
    have hLs:=HL.out;have hRs:=HR.out;have hCr:=HCr.out
    rw [hLL] at hLs hCr
    rw [hRR] at hRs hCr
    have hperm:=perm_four L1 L2 R1 R2
    rw [← hLL,← hRR] at hperm
    have HRow:=Hd hrow;have HLs:=Hd (List.pairwise_append.1 hLs);have HRs:=Hd (List.pairwise_append.1 hRs);have HCr2:=Hd hCr;have HPerm:=Hd hperm;have HAll:=Hd hall
    have Q1:=Hd q1;have Q2:=Hd q2;have Q3:=Hd q3;have Q4:=Hd q4;have Q5:=Hd q5
    have e2:=i64_sub n0 i e he (by have:=HN0.out;have:=HMid.out;omega)
    have hmb:=HMid.out
    have hmm:a < mid∧mid < b:=by omega
    clear hmb
    have HE:=Hd he
    clear hrow hLs hRs hCr hperm hall hem q1 q2 q3 q4 q5 hLL hRR HI HJ HS HS0 HD HL HR HC HCr he hli hjh hlh
    go_upto_region 39 with fail
    go_cut [185] from 178 to 184 (fun v185 wx=>v185 = .bool (decide (i < m∧m < e))∧wr=wx)
    case first=>
     by_cases g1:i < m
     ·by_cases g2:m < e
      ·go_wp2
       go_meet
       exact ⟨congrArg Value.bool (decide_eq_true (p:=i < m∧m < e) (by omega)).symm,rfl⟩
      ·go_wp2
       go_meet
       exact ⟨congrArg Value.bool (decide_eq_false (p:=i < m∧m < e) (by omega)).symm,rfl⟩
     ·go_wp2
      go_meet
      exact ⟨congrArg Value.bool (decide_eq_false (p:=i < m∧m < e) (by omega)).symm,rfl⟩
    case rest=>
     obtain ⟨rfl,rfl⟩:=hcut
     clear e2
     obtain ⟨dd,hdd⟩:∃ dd,dd=decide (i < m∧m < e):=⟨_,rfl⟩
     rw [← hdd]
     have HDd:=Hd hdd
     clear hdd
     go_upto_if 185 with fail
     go_cut [24] from 186 to 191 (fun v24 wx=>v24 = .int .i64 (e:Int)∧Hid (SrtSt G n c w wx (p++(L1++(R1++(L2++(R2++q)))))))
     case first=>
      cases dd with
      | true=>
       obtain ⟨g1,g2⟩:=of_decide_eq_true HDd.out.symm
       have hr:=rotate_calls G n c i m e (p++L1) L2 R1 (R2++q) (.func (.func 182) #[] #[]) wr (by simpa [List.append_assoc] using HRow.out.start) (by rw [List.length_append,HA.out];exact Q1.out) Q2.out Q3.out (by have:=Q2.out;omega) (by have:=Q3.out;omega) hn
       have HRot:=Hd hr
       clear hr
       go_wp2_with fail
       refine HRot.out.mono ?_
       rintro e w1 ⟨rfl,hs⟩
       have HS1:=Hd hs
       clear hs
       go_wp2
       go_meet
       refine ⟨rfl,Hd ?_⟩
       have:=HRow.out.from HS1.out
       simpa [List.append_assoc] using this
      | false=>
       have hg:=of_decide_eq_false HDd.out.symm
       have hnil:L2=[]∨R1=[]:=by
        by_cases g1:i < m
        ·exact .inr (List.eq_nil_of_length_eq_zero (by have:=Q3.out;omega))
        ·exact .inl (List.eq_nil_of_length_eq_zero (by have:=Q2.out;omega))
       have hrow:SrtSt G n c w wr (p++(L1++(R1++(L2++(R2++q))))):=by
        have:=HRow.out
        rcases hnil with h | h
        ·rw [h] at this ⊢;simpa using this
        ·rw [h] at this ⊢;simpa using this
       have HRow2:=Hd hrow
       clear hg hnil hrow
       go_wp2
       go_meet
       exact ⟨rfl,HRow2⟩
     case rest=>
      obtain ⟨rfl,HS2⟩:=hcut
      clear HRow HDd
      go_upto_region 41 with fail
      go_cut [199] from 192 to 198 (fun v199 wx=>v199 = .bool (decide (a < i∧i < mid))∧wc=wx)
      case first=>
       by_cases g1:a < i
       ·by_cases g2:i < mid
        ·go_wp2
         go_meet
         exact ⟨congrArg Value.bool (decide_eq_true (p:=a < i∧i < mid) (by omega)).symm,rfl⟩
        ·go_wp2
         go_meet
         exact ⟨congrArg Value.bool (decide_eq_false (p:=a < i∧i < mid) (by omega)).symm,rfl⟩
       ·go_wp2
        go_meet
        exact ⟨congrArg Value.bool (decide_eq_false (p:=a < i∧i < mid) (by omega)).symm,rfl⟩
      case rest=>
       obtain ⟨rfl,rfl⟩:=hcut
       obtain ⟨dd,hdd⟩:∃ dd,dd=decide (a < i∧i < mid):=⟨_,rfl⟩
       rw [← hdd]
       have HDd:=Hd hdd
       clear hdd
       go_upto_if 199 with fail
       go_cut [24] from 200 to 205 (fun v24 wx=>v24 = .int .i64 (e:Int)∧∃ S1,Hid (SrtP S1 (L1++R1))∧Hid (SrtSt G n c w wx (p++(S1++(L2++(R2++q))))))
       case first=>
        cases dd with
        | true=>
         obtain ⟨g1,g2⟩:=of_decide_eq_true HDd.out.symm
         have hr:=HIh.out G n c a i mid p L1 R1 (L2++(R2++q)) wc (by omega) HS2.out.start HA.out Q1.out (by have:=Q5.out;have:=Q1.out;omega) (by have:=Q1.out;omega) (by have:=Q5.out;have:=Q1.out;omega) HLs.out.1 HRs.out.1 (fun x hx y hy=>HCr2.out x (List.mem_append_left _ hx) y (List.mem_append_left _ hy)) hn
         have HRec:=Hd hr
         clear hr
         go_wp2_with fail
         refine HRec.out.mono ?_
         rintro e w1 ⟨rfl,S1,hp1,hs⟩
         have HS1:=Hd hs;have HP1:=Hd hp1
         clear hs hp1
         go_wp2
         go_meet
         exact ⟨rfl,S1,HP1,Hd (HS2.out.from HS1.out)⟩
        | false=>
         have hg:=of_decide_eq_false HDd.out.symm
         have hsrt:(L1++R1).Pairwise Bef:=by
          by_cases g1:a < i
          ·have hR1:R1=[]:=List.eq_nil_of_length_eq_zero (by have:=Q5.out;have:=Q1.out;omega)
           rw [hR1,List.append_nil];exact HLs.out.1
          ·have hL1:L1=[]:=List.eq_nil_of_length_eq_zero (by have:=Q1.out;omega)
           rw [hL1,List.nil_append];exact HRs.out.1
         have HP1:Hid (SrtP (L1++R1) (L1++R1)):=Hd ⟨List.Perm.refl _,hsrt⟩
         clear hg hsrt
         go_wp2
         go_meet
         exact ⟨rfl,L1++R1,HP1,Hd (by simpa [List.append_assoc] using HS2.out)⟩
       case rest=>
        obtain ⟨rfl,S1,HP1,HS3⟩:=hcut
        clear HS2 HDd
        go_upto_region 43 with fail
        go_cut [213] from 206 to 212 (fun v213 wx=>v213 = .bool (decide (mid < e∧e < b))∧wc=wx)
        case first=>
         by_cases g1:mid < e
         ·by_cases g2:e < b
          ·go_wp2
           go_meet
           exact ⟨congrArg Value.bool (decide_eq_true (p:=mid < e∧e < b) (by omega)).symm,rfl⟩
          ·go_wp2
           go_meet
           exact ⟨congrArg Value.bool (decide_eq_false (p:=mid < e∧e < b) (by omega)).symm,rfl⟩
         ·go_wp2
          go_meet
          exact ⟨congrArg Value.bool (decide_eq_false (p:=mid < e∧e < b) (by omega)).symm,rfl⟩
        case rest=>
         obtain ⟨rfl,rfl⟩:=hcut
         obtain ⟨dd,hdd⟩:∃ dd,dd=decide (mid < e∧e < b):=⟨_,rfl⟩
         rw [← hdd]
         have HDd:=Hd hdd
         clear hdd
         have hfin:∀ S2 w',SrtP S2 (L2++R2)→SrtSt G n c w w' (p++(S1++(S2++q)))→∃ S,SrtP S (L++R)∧SrtSt G n c w w' (p++(S++q)):=by
          intro S2 w' hp2 hs
          refine ⟨S1++S2,⟨(HP1.out.perm.append hp2.perm).trans HPerm.out,join_srt HP1.out.srt hp2.srt ?_⟩,by simpa [List.append_assoc] using hs⟩
          intro u hu v hv
          exact HAll.out u (HP1.out.perm.mem_iff.1 hu) v (hp2.perm.mem_iff.1 hv)
         have HFin:=Hd hfin
         clear hfin
         have hs1:=HP1.out.len
         rw [List.length_append] at hs1
         have HSl:=Hd hs1
         clear hs1
         cases dd with
         | true=>
          obtain ⟨g1,g2⟩:=of_decide_eq_true HDd.out.symm
          have hr:=HIh.out G n c mid e b (p++S1) L2 R2 q wc (by omega) (by simpa [List.append_assoc] using HS3.out.start) (by rw [List.length_append,HA.out,HSl.out];have:=Q5.out;omega) (by have:=Q5.out;have:=Q1.out;have:=Q2.out;have:=Q3.out;omega) Q4.out (by have:=Q5.out;have:=Q1.out;have:=Q2.out;have:=Q3.out;omega) (by have:=Q4.out;omega) HLs.out.2.1 HRs.out.2.1 (fun x hx y hy=>HCr2.out x (List.mem_append_right _ hx) y (List.mem_append_right _ hy)) hn
          have HRec:=Hd hr
          clear hr
          go_wp2_with fail
          refine HRec.out.mono ?_
          rintro e w1 ⟨rfl,S2,hp2,hs⟩
          have HS4:=Hd hs;have HP2:=Hd hp2
          clear hs hp2
          go_wp2
          go_end0
          exact ⟨rfl,HFin.out S2 _ HP2.out (HS3.out.from (by simpa [List.append_assoc] using HS4.out))⟩
         | false=>
          have hg:=of_decide_eq_false HDd.out.symm
          have hsrt:(L2++R2).Pairwise Bef:=by
           by_cases g1:mid < e
           ·have hR2:R2=[]:=List.eq_nil_of_length_eq_zero (by have:=Q4.out;omega)
            rw [hR2,List.append_nil];exact HLs.out.2.1
           ·have hL2:L2=[]:=List.eq_nil_of_length_eq_zero (by have:=Q5.out;have:=Q1.out;have:=Q2.out;have:=Q3.out;omega)
            rw [hL2,List.nil_append];exact HRs.out.2.1
          have HP2:Hid (SrtP (L2++R2) (L2++R2)):=Hd ⟨List.Perm.refl _,hsrt⟩
          clear hg hsrt
          go_wp2
          go_end0
          exact ⟨rfl,HFin.out (L2++R2) _ HP2.out (by simpa [List.append_assoc] using HS3.out)⟩
theorem sym_calls:∀ N,SymC N
 | 0=>fun G n c a m b p L R q w hN h ha hm hb h1 h2 hL hR hc hn=>by omega
 | N+1=>fun G n c a m b p L R q w hN h ha hm hb h1 h2 hL hR hc hn=>by
  by_cases g1:L.length=1
  ·obtain ⟨x,rfl⟩:=List.length_eq_one_iff.1 g1
   exact sym_left G n c a m b p R q x w h ha (by simpa using hm) hb hR (fun y hy=>hc x (List.mem_singleton.2 rfl) y hy) hn
  ·by_cases g2:R.length=1
   ·obtain ⟨y,rfl⟩:=List.length_eq_one_iff.1 g2
    exact sym_right G n c a m b p L q y w h ha hm (by simpa using hb) (by omega) hL (fun x hx=>hc x hx y (List.mem_singleton.2 rfl)) hn
   ·exact sym_mid N G n c a m b p L R q w (sym_calls N) hN h ha hm hb (by omega) (by omega) hL hR hc hn
end Go.Proofs.YtfmjfgmbjdhogaaGreatDoor
