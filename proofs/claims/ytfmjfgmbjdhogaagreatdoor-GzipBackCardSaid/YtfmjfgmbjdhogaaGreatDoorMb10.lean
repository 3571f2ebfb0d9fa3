import Derived.Test.YtfmjfgmbjdhogaaGreatDoorMb9
set_option linter.unusedVariables false
set_option linter.unusedSimpArgs false
set_option maxRecDepth 20000
set_option maxHeartbeats 8000000
namespace Go.Proofs.YtfmjfgmbjdhogaaGreatDoor
open Go.RowKit
def fC (cs:List Int):Nat→Int
 | 0=>0
 | 1=>0
 | n+2=>(fC cs (n+1)+cs.getD (n+1) 0)*2
theorem fC_succ (cs:List Int)(n:Nat)(h:1≤n):fC cs (n+1)=(fC cs n+cs.getD n 0)*2:=by
 obtain ⟨m,rfl⟩:∃ m,n=m+1:=⟨n - 1,by omega⟩
 rfl
def firstsP (cs:List Int)(n:Nat):List Int:=(List.range 16).map (fun m:Nat=>if m < n then fC cs m else 0)
theorem firstsP_len (cs:List Int)(n:Nat):(firstsP cs n).length=16:=by simp [firstsP]
theorem firstsP_one (cs:List Int):firstsP cs 1=zer16:=by
 apply List.ext_getElem (by simp [firstsP,zer16])
 intro i h1 h2
 simp only [firstsP,List.getElem_map,List.getElem_range,zer16,List.getElem_replicate]
 split
 ·have:i=0:=by omega
  subst this;rfl
 ·rfl
theorem firstsP_step (cs:List Int)(n:Nat)(h:n < 16):firstsP cs (n+1)=(firstsP cs n).set n (fC cs n):=by
 apply List.ext_getElem (by simp [firstsP])
 intro i h1 h2
 rw [List.getElem_set]
 simp only [firstsP,List.getElem_map,List.getElem_range]
 by_cases e:n=i
 ·subst e;rw [if_pos (by omega),if_pos rfl]
 ·rw [if_neg e]
  by_cases h3:i < n
  ·rw [if_pos (by omega),if_pos h3]
  ·rw [if_neg (by omega),if_neg h3]
theorem firstsP_get (cs:List Int)(m:Nat)(h:m < 16):(firstsP cs 16).getD m 0=fC cs m:=by simp [firstsP,List.getD,h]
theorem fC_bd (cs:List Int)(hc:∀ n,0≤cs.getD n 0∧cs.getD n 0≤320):∀ n,n≤16→0≤fC cs n∧fC cs n≤50000000:=by
 have hb:∀ n,0≤fC cs n∧fC cs n+640≤640*((2 ^ n:Nat):Int):=by
  intro n
  induction n with
  | zero=>simp [fC]
  | succ n ih=>
   by_cases h:1≤n
   ·rw [fC_succ cs n h,Nat.pow_succ,Int.natCast_mul]
    have:=hc n
    omega
   ·have:n=0:=by omega
    subst this
    simp [fC]
 intro n hn
 have h1:=hb n
 have h2:=Nat.pow_le_pow_right (n:=2) (by decide) hn
 have h3:((2 ^ n:Nat):Int)≤65536:=by
  have:=Int.ofNat_le.2 h2
  simpa using this
 omega
theorem firsts_calls (cs:List Int)(w:World)(hl:cs.length=16)(hc:∀ n,0≤cs.getD n 0∧cs.getD n 0≤320):
  Calls Tryz.prog 134 #[.agg (arrC cs)] w fun e w'=>e = .returned (.agg (arrC (firstsP cs 16)))∧Kept NoB w w':=by
 have HC:=Hd hc;have HL:=Hd hl
 clear hc hl
 go_enter Tryz.func134,Tryz.ntmps134
 go_wp2
 obtain ⟨w1,hw1⟩:∃ w1,w1=((w.alloc (.cells (arrC cs) 194)).alloc (.cells (arrC zer16) 194)).alloc (.cells (arrC zer16) 194):=⟨_,rfl⟩
 have hA1:Arr16 w.heap.size w1 cs:=⟨HL.out,by
  rw [hw1,heap_alloc_old _ _ (by simp;omega),heap_alloc_old _ _ (by simp)];exact heap_alloc_new w _⟩
 have hA2:Arr16 (w.heap.size+1) w1 zer16:=⟨rfl,by
  rw [hw1,heap_alloc_old _ _ (by simp)];exact heap_alloc2_new w _ _⟩
 have hA3:Arr16 (w.heap.size+1+1) w1 (firstsP cs 1):=⟨firstsP_len _ _,by
  rw [firstsP_one,hw1]
  have:=heap_alloc_new ((w.alloc (.cells (arrC cs) 194)).alloc (.cells (arrC zer16) 194)) (.cells (arrC zer16) 194)
  simpa using this⟩
 have hK:Kept NoB w w1:=by rw [hw1];exact (((Kept.refl _ _).alloc _).alloc _).alloc _
 have HA1:=Hd hA1;have HA2:=Hd hA2;have HA3:=Hd hA3;have HK:=Hd hK
 have hw1':((w.alloc (.cells (arrC cs) 194)).alloc (.cells #[.int .i64 0,.int .i64 0,.int .i64 0,.int .i64 0,.int .i64 0,.int .i64 0,.int .i64 0,.int .i64 0,.int .i64 0,.int .i64 0,.int .i64 0,.int .i64 0,.int .i64 0,.int .i64 0,.int .i64 0,.int .i64 0] 194)).alloc (.cells #[.int .i64 0,.int .i64 0,.int .i64 0,.int .i64 0,.int .i64 0,.int .i64 0,.int .i64 0,.int .i64 0,.int .i64 0,.int .i64 0,.int .i64 0,.int .i64 0,.int .i64 0,.int .i64 0,.int .i64 0,.int .i64 0] 194)=w1:=by rw [hw1];rfl
 rw [hw1']
 obtain ⟨G,hG⟩:∃ G,G=w.heap.size:=⟨_,rfl⟩
 rw [← hG] at HA1 HA2 HA3 ⊢
 have HG:=Hd hG
 clear hw1 hw1' hA1 hA2 hA3 hK hG
 go_loopw [5,4] (fun v5 v4 wr=>∃ (n:Nat),v5 = .int .i64 (n:Int)∧v4 = .int .i64 (fC cs n)∧1≤n∧n≤16∧Hid (Arr16 G wr cs)∧Hid (Arr16 (G+1) wr zer16)∧Hid (Arr16 (G+1+1) wr (firstsP cs n))∧Hid (Kept NoB w wr)) (fun v5 _ _=>17 - (intOf v5).toNat)
 case atStart=>exact ⟨1,rfl,rfl,by omega,by omega,HA1,HA2,HA3,HK⟩
 case round=>
  clear HA1 HA2 HA3 HK
  obtain ⟨n,rfl,rfl,hn1,hn16,HA1,HA2,HA3,HK⟩:=hrel
  by_cases hlt:(n:Int)≤15
  ·have hn15:n < 16:=by omega
   have hst:=fC_succ cs n hn1
   have hstep:=firstsP_step cs n hn15
   have hbd:=fC_bd cs HC.out n (by omega)
   have hcb:=HC.out n
   have hc1:=HA1.out.cell n hn15
   have hc3:=HA3.out.cell n hn15
   have hf3:wr.frozen? ⟨G+1+1,n,none⟩=false:=obj_free HA3.out.obj n
   obtain ⟨x,hx⟩:∃ x,x=fC cs n:=⟨_,rfl⟩
   obtain ⟨y,hy⟩:∃ y,y=cs.getD n 0:=⟨_,rfl⟩
   rw [← hx] at hst hstep hbd ⊢
   rw [← hy] at hst hcb hc1
   have hput:=HA3.out.put n x
   rw [← hstep] at hput
   have hks:Kept (fun k=>k=G+1+1) wr (wr.setCell ⟨G+1+1,n,none⟩ (.int .i64 x)):=Kept.setCell (S:=fun k=>k=G+1+1) (p:=⟨G+1+1,n,none⟩) (Kept.refl _ wr) (.inl rfl) _
   have N1:=Hd (HA1.out.kept hks (by omega));have N2:=Hd (HA2.out.kept hks (by omega));have N3:=Hd hput
   have NK:Hid (Kept NoB w (wr.setCell ⟨G+1+1,n,none⟩ (.int .i64 x))):=Hd (Kept.setCell (p:=⟨G+1+1,n,none⟩) HK.out (.inr (by have:=HG.out;show w.heap.size≤G+1+1;omega)) _)
   have hc1':=hks.obj HA1.out.obj (show ¬ G=G+1+1 by omega)
   have hc1n:(wr.setCell ⟨G+1+1,n,none⟩ (.int .i64 x)).cell? ⟨G,n,none⟩=some (.int .i64 y):=by rw [N1.out.cell n hn15,hy]
   have HSt:=Hd hst
   have hGG:¬ G=G+1+1:=by omega
   clear hstep hput hks hx hy hst hc1'
   go_wp2
   go_roundw
   case rel=>exact ⟨n+1,by go_num,by rw [HSt.out],by omega,by omega,N1,N2,N3,NK⟩
   case measure=>simp [intOf];omega
  ·have hn:n=16:=by omega
   subst hn
   have hsz:(arrC (firstsP cs 16)).size=16:=by rw [arrC_size,firstsP_len]
   have hst:=store16 HA2.out (firstsP cs 16) (firstsP_len _ _)
   have HF2:=Hd (HA2.out.row (firstsP cs 16) (firstsP_len _ _))
   have HK2:=Hd (HK.out.setRow (B:=G+1) (.inr (by have:=HG.out;omega)) (arrC (firstsP cs 16)))
   go_wp2_with (refine wpList_load_row rfl 194 (.tmp 3) rfl (G+1+1) rfl 194 (arrC (firstsP cs 16)) (0,0) (.array 16 3) HA3.out.obj Tryz.underlying194 rfl (by rw [hsz];exact info16) ?_)
   refine bodyPost_ret (results_cell_row rfl _ _ (G+1) 194 (arrC (firstsP cs 16)) (0,0) (.array 16 3) rfl HF2.out.obj Tryz.underlying194 rfl (by rw [hsz];exact info16)) rfl ?_
   exact ⟨rfl,HK2.out⟩
def sumK (ls:List Int):Nat→Int
 | 0=>0
 | n+1=>sumK ls n+((ls.count ((n+1:Nat):Int):Nat):Int)*kpart ((n+1:Nat):Int)
theorem sumK_nil:∀ n,sumK [] n=0
 | 0=>rfl
 | n+1=>by simp only [sumK,sumK_nil n];simp
theorem sumK_cons (z:Int)(r:List Int):∀ n:Nat,n≤15→sumK (z :: r) n=sumK r n+(if 1≤z∧z≤n then kpart z else 0)
 | 0,_=>by
  rw [if_neg (by omega)];rfl
 | n+1,h=>by
  simp only [sumK,sumK_cons z r n (by omega),List.count_cons]
  by_cases e:z=((n+1:Nat):Int)
  ·subst e
   simp only [beq_self_eq_true,if_true]
   rw [if_neg (by omega),if_pos (by omega),Int.natCast_add (List.count _ r) 1,Int.add_mul]
   omega
  ·have e2:(z == ((n+1:Nat):Int))=false:=by simpa using e
   rw [e2]
   simp only [Bool.false_eq_true,if_false,Nat.add_zero]
   by_cases h1:1≤z∧z≤(n:Int)
   ·rw [if_pos h1,if_pos (by omega)];omega
   ·rw [if_neg h1,if_neg (by omega)];omega
theorem sumK_all:∀ ls:List Int,Small 15 ls→sumK ls 15=kraftL ls
 | [],_=>sumK_nil 15
 | z :: r,h=>by
  have hz:=h z List.mem_cons_self
  rw [sumK_cons z r 15 (by omega),sumK_all r (fun y hy=>h y (List.mem_cons_of_mem _ hy))]
  simp only [kraftL]
  by_cases h1:1≤z
  ·rw [if_pos (by omega)];omega
  ·rw [if_neg (by omega),kpart_out z (by omega)];omega
theorem sumK_bd (ls:List Int)(hl:ls.length≤320):∀ n,0≤sumK ls n∧sumK ls n≤10485760*(n:Int)
 | 0=>by simp [sumK]
 | n+1=>by
  have ih:=sumK_bd ls hl n
  have hc:=List.count_le_length (l:=ls) (a:=((n+1:Nat):Int))
  have hk:=kpart_bd ((n+1:Nat):Int)
  obtain ⟨c,hce⟩:∃ c:Int,c=((ls.count ((n+1:Nat):Int):Nat):Int):=⟨_,rfl⟩
  have hc2:0≤c∧c≤320:=by omega
  have h1:=Int.mul_nonneg hc2.1 hk.1
  have h2:c*kpart ((n+1:Nat):Int)≤320*32768:=Int.mul_le_mul hc2.2 hk.2 hk.1 (by omega)
  simp only [sumK,← hce]
  omega
def kindS (ls:List Int):Int:=
 if ls.length=ls.count 0 then 1 else if ls.length=ls.count 0+1∧ls.count 1=1 then 2 else if 32768 < kraftL ls then 4 else if kraftL ls < 32768 then 5 else 3
theorem kind_calls (a:Option Addr)(c B:Nat)(ls:List Int)(w:World)(hr:RdI w B a ls)(hs:Small 15 ls)(hl:ls.length≤320):
  Calls Tryz.prog 162 #[.slice a ls.length c] w fun e w'=>e = .returned (.int .i64 (kindS ls))∧Kept NoB w w':=by
 have HCt:=Hd (counts_calls a c B ls w hr hs hl)
 have HS:=Hd hs
 obtain ⟨n,hn⟩:∃ n,n=ls.length:=⟨_,rfl⟩
 have HN:=Hd hn
 rw [← hn] at hl HCt ⊢
 clear hr hs hn
 have hK0:Hid (kindS ls=if n=ls.count 0 then 1 else if n=ls.count 0+1∧ls.count 1=1 then 2 else if 32768 < kraftL ls then 4 else if kraftL ls < 32768 then 5 else 3):=Hd (by rw [HN.out];rfl)
 obtain ⟨KS,hKS⟩:∃ x,x=kindS ls:=⟨_,rfl⟩
 rw [← hKS] at hK0 ⊢
 clear hKS
 have hsz:(arrC (cntsL ls)).size=16:=by rw [arrC_size,cnts_len]
 go_enter Tryz.func162,Tryz.ntmps162
 go_wp2_with fail
 refine HCt.out.mono ?_
 rintro e w1 ⟨rfl,hk⟩
 have HK:=Hd hk
 clear hk
 have hA0:Arr16 w1.heap.size (w1.alloc (.cells (arrC zer16) 194)) zer16:=⟨rfl,heap_alloc_new w1 _⟩
 have hst:=store16 hA0 (cntsL ls) (cnts_len _)
 have hA1:=hA0.row (cntsL ls) (cnts_len _)
 have hK1:Kept NoB w ((w1.alloc (.cells (arrC zer16) 194)).setRow w1.heap.size (arrC (cntsL ls))):=(HK.out.alloc _).setRow (.inr HK.out.size) _
 have hze:arrC zer16=#[.int .i64 0,.int .i64 0,.int .i64 0,.int .i64 0,.int .i64 0,.int .i64 0,.int .i64 0,.int .i64 0,.int .i64 0,.int .i64 0,.int .i64 0,.int .i64 0,.int .i64 0,.int .i64 0,.int .i64 0,.int .i64 0]:=rfl
 rw [hze] at hst hA1 hK1
 have HA1:=Hd hA1;have HK1:=Hd hK1
 clear hA0 hA1 hK1 hze
 go_upto_region 2 with fail
 obtain ⟨W,hW⟩:∃ W,W=(w1.alloc (.cells #[.int .i64 0,.int .i64 0,.int .i64 0,.int .i64 0,.int .i64 0,.int .i64 0,.int .i64 0,.int .i64 0,.int .i64 0,.int .i64 0,.int .i64 0,.int .i64 0,.int .i64 0,.int .i64 0,.int .i64 0,.int .i64 0] 194)).setRow w1.heap.size (arrC (cntsL ls)):=⟨_,rfl⟩
 rw [← hW] at HA1 HK1 ⊢
 obtain ⟨G,hG⟩:∃ G,G=w1.heap.size:=⟨_,rfl⟩
 rw [← hG] at HA1 ⊢
 clear hW hG hst
 have d0:=HA1.out.cell 0 (by omega)
 have d1:=HA1.out.cell 1 (by omega)
 rw [cnts_get _ _ (by omega)] at d0 d1
 have hc0:=List.count_le_length (l:=ls) (a:=0)
 have hc1:=List.count_le_length (l:=ls) (a:=1)
 obtain ⟨c0,hce0⟩:∃ x,x=ls.count 0:=⟨_,rfl⟩
 obtain ⟨c1,hce1⟩:∃ x,x=ls.count 1:=⟨_,rfl⟩
 have d0':W.cell? ⟨G,0,none⟩=some (.int .i64 (c0:Int)):=by rw [hce0];exact d0
 have d1':W.cell? ⟨G,1,none⟩=some (.int .i64 (c1:Int)):=by rw [hce1];exact d1
 rw [← hce0,← HN.out] at hc0
 rw [← hce1,← HN.out] at hc1
 rw [← hce0,← hce1] at hK0
 clear d0 d1 hce0 hce1
 obtain ⟨us,hus⟩:∃ us,us+c0=n:=⟨n - c0,by omega⟩
 have e1:=i64_sub n c0 us hus (by omega)
 have HUs:=Hd hus
 clear hus hc0
 by_cases hu0:us=0
 ·have g1:((us:Int) == 0)=true:=by simp;omega
  have hk:=hK0.out
  rw [if_pos (by have:=HUs.out;omega)] at hk
  have HKk:=Hd hk
  clear hk
  go_wp2
  go_ret
  exact ⟨by rw [HKk.out];rfl,HK1.out⟩
 ·have g1:((us:Int) == 0)=false:=by simp;omega
  have hk:=hK0.out
  rw [if_neg (by have:=HUs.out;omega)] at hk
  by_cases hlone:us=1∧c1=1
  ·have g2:((us:Int) == 1)=true:=by simp;omega
   have g3:((c1:Int) == 1)=true:=by simp;omega
   rw [if_pos (by have:=HUs.out;omega)] at hk
   have HKk:=Hd hk
   clear hk
   go_wp2
   go_ret
   exact ⟨by rw [HKk.out];rfl,HK1.out⟩
  ·rw [if_neg (by have:=HUs.out;omega)] at hk
   have HKk:=Hd hk
   clear hk
   have hgo:((us:Int) == 1)=false∨(((us:Int) == 1)=true∧((c1:Int) == 1)=false):=by
    by_cases h:us=1
    ·exact .inr ⟨by simp;omega,by simp;omega⟩
    ·exact .inl (by simp;omega)
   go_upto_region 7 with fail
   go_cut [28] from 22 to 27 (fun v28 wx=>v28 = .bool false∧W=wx)
   case first=>
    rcases hgo with g2 | ⟨g2,g3⟩
    ·go_wp2
     go_meet
     exact ⟨rfl,rfl⟩
    ·go_wp2
     go_meet
     exact ⟨rfl,rfl⟩
   case rest=>
    obtain ⟨rfl,rfl⟩:=hcut
    clear hgo d0' d1' e1
    go_wp2
    go_loopw [7,6] (fun v7 v6 wr=>∃ m:Nat,v7 = .int .i64 ((m:Int)+1)∧v6 = .int .i64 (sumK ls m)∧m≤15∧Hid (Arr16 G wr (cntsL ls))∧Hid (Kept NoB w wr)) (fun v7 _ _=>17 - (intOf v7).toNat)
    case atStart=>exact ⟨0,rfl,rfl,by omega,HA1,HK1⟩
    case round=>
     clear HA1 HK1
     obtain ⟨m,rfl,rfl,hm,HA1,HK1⟩:=hrel
     have hsb:=sumK_bd ls (by rw [← HN.out];exact hl) m
     by_cases hlt:(m:Int)+1≤15
     ·have d:=HA1.out.cell (m+1) (by omega)
      rw [cnts_get _ _ (by omega)] at d
      have hc:=List.count_le_length (l:=ls) (a:=((m+1:Nat):Int))
      rw [← HN.out] at hc
      have hstep:sumK ls (m+1)=sumK ls m+((ls.count ((m+1:Nat):Int):Nat):Int)*kpart ((m+1:Nat):Int):=rfl
      have hkd:=kpart_div (m+1) (by omega) (by omega)
      have hkb:=kpart_bd ((m+1:Nat):Int)
      obtain ⟨q,hq⟩:∃ q:Nat,q=m+1:=⟨_,rfl⟩
      rw [← hq] at d hc hstep hkd hkb
      obtain ⟨y,hy⟩:∃ y,y=ls.count (q:Int):=⟨_,rfl⟩
      rw [← hy] at d hc hstep
      obtain ⟨kp,hkp⟩:∃ kp,kp=kpart (q:Int):=⟨_,rfl⟩
      rw [← hkp] at hstep hkd hkb
      obtain ⟨x,hx⟩:∃ x,x=sumK ls m:=⟨_,rfl⟩
      rw [← hx] at hstep hsb ⊢
      have hq2:(m:Int)+1=(q:Int):=by omega
      rw [hq2] at hlt ⊢
      have hpr:=prod_bd (x:=(y:Int)) (y:=kp) (by omega) (by omega)
      obtain ⟨p,hp⟩:∃ p:Int,p=(y:Int)*kp:=⟨_,rfl⟩
      rw [← hp] at hstep hpr
      have e1:wrap64 ((y:Int)*kp)=p:=by rw [← hp];exact IntWalk.wrap64_in _ (by omega)
      have e2:wrap64 (x+p)=x+p:=IntWalk.wrap64_in _ (by omega)
      have b1:(q:Int) < 16:=by omega
      have b2:q < 16:=by omega
      have HSt:=Hd hstep;have HQ:=Hd hq
      clear hstep hq hy hkp hx hp hq2
      go_upto_region 13 with fail
      go_quiet (fail)
      have HA2:=Hd (HA1.out.kept ((Kept.refl NoB wr).drewN nq) (fun h=>h));have HK2:=Hd (HK1.out.drewN nq)
      go_wp2
      go_roundw
      case rel=>exact ⟨q,by go_num,by rw [HSt.out],by omega,HA2,HK2⟩
      case measure=>simp [intOf];omega
     ·have hm15:m=15:=by omega
      subst hm15
      rw [sumK_all ls HS.out] at hsb ⊢
      obtain ⟨x,hx⟩:∃ x,x=kraftL ls:=⟨_,rfl⟩
      have hk:=HKk.out
      rw [← hx] at hk hsb ⊢
      clear hx
      by_cases h1:32768 < x
      ·rw [if_pos h1] at hk
       have HKz:=Hd hk
       clear hk
       go_wp2
       go_ret
       exact ⟨by rw [HKz.out];rfl,HK1.out⟩
      ·rw [if_neg h1] at hk
       by_cases h2:x < 32768
       ·rw [if_pos h2] at hk
        have HKz:=Hd hk
        clear hk
        go_wp2
        go_ret
        exact ⟨by rw [HKz.out];rfl,HK1.out⟩
       ·rw [if_neg h2] at hk
        have HKz:=Hd hk
        clear hk
        go_wp2
        go_ret
        exact ⟨by rw [HKz.out];rfl,HK1.out⟩
def refS (ls:List Int):Int:=if kindS ls=4∨kindS ls=5 then 3 else 0
theorem kindS_of (ls:List Int):kindS ls=1∨kindS ls=2∨kindS ls=3∨kindS ls=4∨kindS ls=5:=by
 unfold kindS
 split
 ·exact .inl rfl
 ·split
  ·exact .inr (.inl rfl)
  ·split
   ·exact .inr (.inr (.inr (.inl rfl)))
   ·split
    ·exact .inr (.inr (.inr (.inr rfl)))
    ·exact .inr (.inr (.inl rfl))
theorem refused_calls (a:Option Addr)(c B:Nat)(ls:List Int)(w:World)(hr:RdI w B a ls)(hs:Small 15 ls)(hl:ls.length≤320):
  Calls Tryz.prog 132 #[.slice a ls.length c] w fun e w'=>e = .returned (.int .i64 (refS ls))∧Kept NoB w w':=by
 have HCt:=Hd (kind_calls a c B ls w hr hs hl)
 have hR:∀ k,kindS ls=k→refS ls=if k=4∨k=5 then 3 else 0:=fun k h=>by unfold refS;rw [h]
 have HR:=Hd hR
 obtain ⟨R,hRe⟩:∃ R,R=refS ls:=⟨_,rfl⟩
 rw [← hRe] at HR ⊢
 obtain ⟨n,hn⟩:∃ n,n=ls.length:=⟨_,rfl⟩
 rw [← hn] at HCt ⊢
 clear hr hs hR hRe hn
 rcases kindS_of ls with h | h | h | h | h
 all_goals
  rw [h] at HCt
  have hk:=HR.out _ h
  simp only [Int.reduceEq,or_false,or_true,if_true,if_false,or_self,false_or,true_or] at hk
  have HK:=Hd hk
  clear h hk HR
  go_enter Tryz.func132,Tryz.ntmps132
  go_wp2_with fail
  refine HCt.out.mono ?_
  rintro e w1 ⟨rfl,hk⟩
  have HK1:=Hd hk
  clear hk
  go_wp2
  go_ret
  exact ⟨by rw [HK.out];rfl,HK1.out⟩
def codeAt (ls:List Int)(i:Nat):Int:=
 if 0 < ls.getD i 0 then fC (cntsL ls) (ls.getD i 0).toNat+(((ls.take i).count (ls.getD i 0):Nat):Int) else 0
def codesP (ls:List Int)(j:Nat):List Int:=(List.range ls.length).map (fun i:Nat=>if i < j then codeAt ls i else 0)
def nextP (ls:List Int)(j:Nat):List Int:=(List.range 16).map (fun n:Nat=>fC (cntsL ls) n+(if n=0 then 0 else (((ls.take j).count (n:Int):Nat):Int)))
theorem nextP_get (ls:List Int)(j n:Nat)(h:n < 16):(nextP ls j).getD n 0=fC (cntsL ls) n+(if n=0 then 0 else (((ls.take j).count (n:Int):Nat):Int)):=by simp [nextP,List.getD,h]
theorem nextP_zero (ls:List Int):nextP ls 0=firstsP (cntsL ls) 16:=by
 apply List.ext_getElem (by simp [nextP,firstsP])
 intro i h1 h2
 have hi:i < 16:=by simpa [nextP] using h1
 simp [nextP,firstsP,hi]
theorem take_snoc (ls:List Int)(j:Nat)(h:j < ls.length):ls.take (j+1)=ls.take j++[ls.getD j 0]:=by
 rw [List.take_succ_eq_append_getElem h];simp [List.getD,h]
theorem nextP_step (ls:List Int)(j z:Nat)(h:j < ls.length)(hz:ls.getD j 0=(z:Int))(h1:1≤z)(h15:z < 16):nextP ls (j+1)=(nextP ls j).set z ((nextP ls j).getD z 0+1):=by
 obtain ⟨v,hv⟩:∃ v,v=(nextP ls j).getD z 0+1:=⟨_,rfl⟩
 rw [← hv]
 rw [nextP_get _ _ _ h15,if_neg (by omega)] at hv
 apply List.ext_getElem (by simp [nextP])
 intro i h2 h3
 rw [List.getElem_set]
 simp only [nextP,List.getElem_map,List.getElem_range]
 rw [take_snoc ls j h,hz,List.count_append]
 by_cases e:z=i
 ·subst e
  rw [if_neg (by omega),if_pos rfl,hv]
  simp;omega
 ·rw [if_neg e]
  have e2:¬ (z:Int)=(i:Int):=by omega
  simp [List.count_cons,e2]
theorem nextP_same (ls:List Int)(j:Nat)(h:j < ls.length)(hz:ls.getD j 0=0):nextP ls (j+1)=nextP ls j:=by
 apply List.ext_getElem (by simp [nextP])
 intro i h2 h3
 simp only [nextP,List.getElem_map,List.getElem_range]
 rw [take_snoc ls j h,hz,List.count_append]
 by_cases e:i=0
 ·rw [if_pos e,if_pos e]
 ·have e2:¬ (0:Int)=(i:Int):=by omega
  simp [List.count_cons,e2,e]
theorem codesP_len (ls:List Int)(j:Nat):(codesP ls j).length=ls.length:=by simp [codesP]
theorem codesP_zero (ls:List Int):codesP ls 0=List.replicate ls.length 0:=by
 apply List.ext_getElem (by simp [codesP])
 intro i h1 h2
 simp [codesP]
theorem codesP_step (ls:List Int)(j:Nat)(h:j < ls.length):codesP ls (j+1)=(codesP ls j).set j (codeAt ls j):=by
 apply List.ext_getElem (by simp [codesP])
 intro i h1 h2
 rw [List.getElem_set]
 simp only [codesP,List.getElem_map,List.getElem_range]
 by_cases e:j=i
 ·subst e;rw [if_pos (by omega),if_pos rfl]
 ·rw [if_neg e]
  by_cases h3:i < j
  ·rw [if_pos (by omega),if_pos h3]
  ·rw [if_neg (by omega),if_neg h3]
theorem codesP_same (ls:List Int)(j:Nat)(h:j < ls.length)(hz:¬ 0 < ls.getD j 0):codesP ls (j+1)=codesP ls j:=by
 apply List.ext_getElem (by simp [codesP])
 intro i h1 h2
 simp only [codesP,List.getElem_map,List.getElem_range]
 by_cases e:j=i
 ·subst e;rw [if_pos (by omega),if_neg (by omega)];unfold codeAt;rw [if_neg hz]
 ·by_cases h3:i < j
  ·rw [if_pos (by omega),if_pos h3]
  ·rw [if_neg (by omega),if_neg h3]
def codesL (ls:List Int):List Int:=codesP ls ls.length
theorem codesL_get (ls:List Int)(i:Nat)(h:i < ls.length):(codesL ls).getD i 0=codeAt ls i:=by simp [codesL,codesP,List.getD,h]
theorem cnts_bd (ls:List Int)(hl:ls.length≤320)(n:Nat):0≤(cntsL ls).getD n 0∧(cntsL ls).getD n 0≤320:=by
 by_cases h:n < 16
 ·rw [cnts_get _ _ h]
  have:=List.count_le_length (l:=ls) (a:=(n:Int))
  omega
 ·have:(cntsL ls).getD n 0=0:=by simp [List.getD,cnts_len,show 16≤n by omega]
  omega
theorem infoU:(Tryz.prog.info? 71).map (fun i=>(i.zero,i.size,i.bytes))=some (some (.int .u32 0),1,4):=by kernel_rfl
def CodesP (w:World)(zs:List Int)(e:Ending)(w':World):Prop:=
 ∃ a c,e = .returned (.tuple #[.slice a zs.length c,.int .i64 0])∧w'.ownsRow 0 71 1 (.slice a zs.length c) zs.length (zs.map (.int .u32))∧Kept NoB w w'
theorem codes_calls (a:Option Addr)(c B:Nat)(ls:List Int)(w:World)(hr:RdI w B a ls)(hs:Small 15 ls)(hl:ls.length≤320)(hk:refS ls=0):
  Calls Tryz.prog 100 #[.slice a ls.length c] w (CodesP w (codesL ls)):=by
 have hRf:=refused_calls a c B ls w hr hs hl
 rw [hk] at hRf
 have HRf:=Hd hRf
 have hCn:∀ W,Kept NoB w W→Calls Tryz.prog 133 #[.slice a ls.length c] W fun e w'=>e = .returned (.tuple #[.agg (arrC (cntsL ls)),.bool true])∧Kept NoB W w':=fun W hk=>counts_calls a c B ls W (hr.kept hk (fun _ _ h=>h)) hs hl
 have HCn:=Hd hCn
 have HFi:=Hd (fun W=>firsts_calls (cntsL ls) W (cnts_len ls) (cnts_bd ls hl))
 have HR:=Hd hr;have HS:=Hd hs
 obtain ⟨Z,hZ⟩:∃ Z,Z=codesL ls:=⟨_,rfl⟩
 have HZ:=Hd hZ
 rw [← hZ]
 obtain ⟨n,hn⟩:∃ n,n=ls.length:=⟨_,rfl⟩
 have HN:=Hd hn
 rw [← hn] at hl HRf HCn ⊢
 obtain ⟨i0,hi,hz0,hz1,hz2⟩:=info_parts infoU
 have hsz:(arrC (cntsL ls)).size=16:=by rw [arrC_size,cnts_len]
 have hsz2:(arrC (firstsP (cntsL ls) 16)).size=16:=by rw [arrC_size,firstsP_len]
 clear hr hs hn hZ hCn hRf hk
 go_enter Tryz.func100,Tryz.ntmps100
 go_wp2_with fail
 refine HRf.out.mono ?_
 rintro e w1 ⟨rfl,hk⟩
 have HK1:=Hd hk
 clear hk
 go_wp2_with fail
 refine (HCn.out _ HK1.out).mono ?_
 rintro e w2 ⟨rfl,hk⟩
 have HK2:=Hd (HK1.out.trans hk)
 clear hk
 have hA0:Arr16 w2.heap.size (w2.alloc (.cells (arrC zer16) 194)) zer16:=⟨rfl,heap_alloc_new w2 _⟩
 have hst:=store16 hA0 (cntsL ls) (cnts_len _)
 have hA1:=hA0.row (cntsL ls) (cnts_len _)
 have hK1:Kept NoB w ((w2.alloc (.cells (arrC zer16) 194)).setRow w2.heap.size (arrC (cntsL ls))):=(HK2.out.alloc _).setRow (.inr HK2.out.size) _
 have hze:arrC zer16=#[.int .i64 0,.int .i64 0,.int .i64 0,.int .i64 0,.int .i64 0,.int .i64 0,.int .i64 0,.int .i64 0,.int .i64 0,.int .i64 0,.int .i64 0,.int .i64 0,.int .i64 0,.int .i64 0,.int .i64 0,.int .i64 0]:=rfl
 rw [hze] at hst hA1 hK1
 have HA1:=Hd hA1;have HK3:=Hd hK1
 clear hA0 hA1 hK1
 go_upto_region 5 with fail
 obtain ⟨W,hW⟩:∃ W,W=(w2.alloc (.cells #[.int .i64 0,.int .i64 0,.int .i64 0,.int .i64 0,.int .i64 0,.int .i64 0,.int .i64 0,.int .i64 0,.int .i64 0,.int .i64 0,.int .i64 0,.int .i64 0,.int .i64 0,.int .i64 0,.int .i64 0,.int .i64 0] 194)).setRow w2.heap.size (arrC (cntsL ls)):=⟨_,rfl⟩
 rw [← hW] at HA1 HK3 ⊢
 obtain ⟨G,hG⟩:∃ G,G=w2.heap.size:=⟨_,rfl⟩
 rw [← hG] at HA1 ⊢
 clear hW hG hst
 go_wp2_with (refine wpList_load_row rfl 194 (.tmp 5) rfl G rfl 194 (arrC (cntsL ls)) (0,0) (.array 16 3) HA1.out.obj Tryz.underlying194 rfl (by rw [hsz];exact info16) ?_)
 refine (HFi.out _).mono ?_
 rintro e w3 ⟨rfl,hk⟩
 have HK4:=Hd (HK3.out.trans hk)
 clear hk HA1
 have hA0:Arr16 w3.heap.size (w3.alloc (.cells (arrC zer16) 194)) zer16:=⟨rfl,heap_alloc_new w3 _⟩
 have hst:=store16 hA0 (firstsP (cntsL ls) 16) (firstsP_len _ _)
 have hA1:=hA0.row (firstsP (cntsL ls) 16) (firstsP_len _ _)
 have hK1:Kept NoB w ((w3.alloc (.cells (arrC zer16) 194)).setRow w3.heap.size (arrC (firstsP (cntsL ls) 16))):=(HK4.out.alloc _).setRow (.inr HK4.out.size) _
 rw [hze] at hst hA1 hK1
 have HA1:=Hd hA1;have HK5:=Hd hK1
 have hwG:=HK4.out.size
 clear hA0 hA1 hK1 hze
 go_upto_region 6 with fail
 obtain ⟨W3,hW⟩:∃ W,W=(w3.alloc (.cells #[.int .i64 0,.int .i64 0,.int .i64 0,.int .i64 0,.int .i64 0,.int .i64 0,.int .i64 0,.int .i64 0,.int .i64 0,.int .i64 0,.int .i64 0,.int .i64 0,.int .i64 0,.int .i64 0,.int .i64 0,.int .i64 0] 194)).setRow w3.heap.size (arrC (firstsP (cntsL ls) 16)):=⟨_,rfl⟩
 rw [← hW] at HA1 HK5 ⊢
 obtain ⟨H,hH⟩:∃ H,H=w3.heap.size:=⟨_,rfl⟩
 rw [← hH] at HA1 hwG ⊢
 have HA1':=HA1
 rw [← nextP_zero] at HA1'
 have HWG:=Hd hwG
 clear hW hH hst hwG HA1
 have HA1:=HA1'
 clear HA1'
 go_wp2_with (at_make;refine wpList_make_full _ rfl _ _ _ rfl 0 71 i0 (.int .u32 0) 1 Tryz.underlying156 hi hz0 hz1 .i64 .i64 _ _ n rfl rfl rfl rfl (by rw [hz2];omega) (by unfold maxLen;omega) (Nat.zero_le _) ?_)
 intro w4 hown hgrow
 rw [toList_madeCells_one] at hown
 have hk34:Kept NoB W3 w4:=(Kept.refl _ _).grown hgrow (fun k _ e=>by cases e)
 have hown0:w4.ownsRow 0 71 1 (.slice (some ⟨W3.heap.size,0,none⟩) n n) n ((codesP ls 0).map (.int .u32)):=by
  rw [codesP_zero,← HN.out,List.map_replicate];exact hown
 have HA4:=Hd (HA1.out.kept hk34 (fun h=>h));have HK6:=Hd (HK5.out.trans hk34);have HO:=Hd hown0
 have hHW:H < W3.heap.size:=obj_lt HA1.out.obj
 have hwW:=HK5.out.size
 obtain ⟨D,hD⟩:∃ D,D=W3.heap.size:=⟨_,rfl⟩
 rw [← hD] at HO hHW hwW ⊢
 have HD:=Hd hwW
 clear hown hgrow hk34 hown0 hD hwW
 go_wp2
 go_loopw [28,9,10] (fun v28 _v9 _v10 wr=>∃ (j:Nat),v28 = .int .i64 (j:Int)∧j≤n∧Hid (Arr16 H wr (nextP ls j))∧Hid (wr.ownsRow 0 71 1 (.slice (some ⟨D,0,none⟩) n n) n ((codesP ls j).map (.int .u32)))∧Hid (Kept NoB w wr)) (fun v28 _ _ _=>n - (intOf v28).toNat)
 case atStart=>exact ⟨0,rfl,by omega,HA4,HO,HK6⟩
 case round=>
  clear HA4 HO HK6 HA1
  obtain ⟨j,rfl,hj,HA,HO,HK⟩:=hrel
  by_cases hlt:(j:Int) < n
  ·obtain ⟨g,off,rfl,_,hc0⟩:=HR.out j (by have:=HN.out;omega)
   have hc:=HK.out.cell hc0
   have hb:=HS.out.getD j (by have:=HN.out;omega)
   obtain ⟨z,hz⟩:∃ z:Nat,(z:Int)=ls.getD j 0:=⟨(ls.getD j 0).toNat,by omega⟩
   rw [← hz] at hc hb
   have hjl:j < ls.length:=by have:=HN.out;omega
   by_cases hz0':z=0
   ·have hzz:ls.getD j 0=0:=by omega
    have e1:=nextP_same ls j hjl hzz
    have e2:=codesP_same ls j hjl (by omega)
    have hA:=HA.out;have hO:=HO.out
    rw [← e1] at hA
    rw [← e2] at hO
    have HA2:=Hd hA;have HO2:=Hd hO
    have g1:¬ 0 < (z:Int):=by omega
    clear e1 e2 hA hO hzz hz hc0
    go_wp2
    go_roundw
    case rel=>exact ⟨j+1,by go_num,by omega,HA2,HO2,HK⟩
    case measure=>simp [intOf];omega
   ·have hz16:z < 16:=by omega
    have g1:0 < (z:Int):=by omega
    have e1:=nextP_step ls j z hjl hz.symm (by omega) hz16
    have e2:=codesP_step ls j hjl
    have hy:(nextP ls j).getD z 0=codeAt ls j:=by
     rw [nextP_get _ _ _ hz16,if_neg hz0']
     unfold codeAt
     rw [if_pos (by omega),← hz,Int.toNat_natCast]
    have hfb:=fC_bd (cntsL ls) (cnts_bd ls (by rw [← HN.out];exact hl)) z (by omega)
    have hcl:=List.count_le_length (l:=ls.take j) (a:=(z:Int))
    have hyb:0≤codeAt ls j∧codeAt ls j≤60000000:=by
     rw [← hy,nextP_get _ _ _ hz16,if_neg hz0']
     rw [List.length_take] at hcl
     omega
    have d1:=HA.out.cell z hz16
    rw [hy] at d1 e1
    obtain ⟨y,hye⟩:∃ y,y=codeAt ls j:=⟨_,rfl⟩
    rw [← hye] at d1 e1 e2 hyb
    have hud:∃ u,wr.cell? ⟨D,j,none⟩=some u:=by
     rw [HO.out.cellAt j (by omega)]
     exact ⟨_,List.getElem?_eq_getElem (by simp [codesP_len];omega)⟩
    obtain ⟨u,hu⟩:=hud
    have hfd:=HO.out.frozenAt j
    obtain ⟨s1,s2⟩:=HO.out.stored j (.int .u32 y)
    rw [← List.map_set,← e2] at s1
    have hk1:Kept (fun k=>k=D) wr (wr.setCell ⟨D,j,none⟩ (.int .u32 y)):=Kept.setCell (S:=fun k=>k=D) (p:=⟨D,j,none⟩) (Kept.refl _ wr) (.inl rfl) _
    have hA1:=HA.out.kept hk1 (show ¬ H=D by omega)
    have d2:(wr.setCell ⟨D,j,none⟩ (.int .u32 y)).cell? ⟨H,z,none⟩=some (.int .i64 y):=by
     have:=hA1.cell z hz16
     rw [hy,← hye] at this
     exact this
    have hfh:(wr.setCell ⟨D,j,none⟩ (.int .u32 y)).frozen? ⟨H,z,none⟩=false:=obj_free hA1.obj z
    have hA2:=hA1.put z (y+1)
    rw [← e1] at hA2
    have hk2:Kept (fun k=>k=H) (wr.setCell ⟨D,j,none⟩ (.int .u32 y)) ((wr.setCell ⟨D,j,none⟩ (.int .u32 y)).setCell ⟨H,z,none⟩ (.int .i64 (y+1))):=Kept.setCell (S:=fun k=>k=H) (p:=⟨H,z,none⟩) (Kept.refl _ _) (.inl rfl) _
    have hO2:=hk2.row s1 (fun k e=>by simp [Value.ownBlock] at e;omega)
    have hK2:Kept NoB w ((wr.setCell ⟨D,j,none⟩ (.int .u32 y)).setCell ⟨H,z,none⟩ (.int .i64 (y+1))):=Kept.setCell (p:=⟨H,z,none⟩) (Kept.setCell (p:=⟨D,j,none⟩) HK.out (.inr HD.out) _) (.inr HWG.out) _
    have HA2:=Hd hA2;have HO2:=Hd hO2;have HK2:=Hd hK2
    have ew:IntKind.u32.wrap y=y:=IntWalk.u32_in _ (by omega)
    have hHD:¬ H=D:=by omega
    have hDH:¬ D=H:=by omega
    have hfh0:wr.frozen? ⟨H,z,none⟩=false:=obj_free HA.out.obj z
    clear e1 e2 hy hye hz hc0 s1 s2 hk1 hA1 hA2 hk2 hO2 hK2 hfb hcl
    go_wp2
    go_roundw
    case rel=>exact ⟨j+1,by go_num,by omega,HA2,HO2,HK2⟩
    case measure=>simp [intOf];omega
  ·have hjn:j=n:=by omega
   subst hjn
   have hzl:Z.length=j:=by rw [HZ.out];unfold codesL;rw [codesP_len];exact HN.out.symm
   have hfin:codesP ls j=Z:=by rw [HZ.out,HN.out];rfl
   have hO:=HO.out
   rw [hfin] at hO
   have HOf:=Hd hO;have HZl:=Hd hzl
   clear hzl hfin hO HO
   go_wp2
   go_ret2
   exact ⟨some ⟨D,0,none⟩,j,by rw [HZl.out];rfl,by rw [HZl.out];exact HOf.out,HK.out⟩
structure IntSt (w0 w:World)(a:Option Addr)(l c:Nat)(zs:List Int):Prop where
 len:l=zs.length
 own:w.ownsRow 0 3 1 (.slice a l c) l (zs.map (.int .i64))
 kept:Kept NoB w0 w
 fresh:∀ k,(Value.slice a l c).ownBlock=some k→w0.heap.size≤k
theorem IntSt.reads {w0 w:World}{a:Option Addr}{l c:Nat}{zs:List Int}(h:IntSt w0 w a l c zs):RdI w w.heap.size a zs:=by
 have hl:=h.len
 intro i hi
 rcases h.own.2 with ⟨_,hz⟩ | ⟨g,cc,cur,hv,_⟩
 ·omega
 ·simp at hv
  obtain ⟨rfl,rfl⟩:=hv
  have hc:w.cell? ⟨g,i,none⟩=some (.int .i64 (zs.getD i 0)):=by
   rw [h.own.cellAt i (by omega)];simp [List.getD,hi]
  exact ⟨g,0,rfl,World.block_lt_of_cell? w _ hc,by rw [Nat.zero_add];exact hc⟩
theorem RdI.keptNo {w w':World}{B:Nat}{ao:Option Addr}{zs:List Int}(h:RdI w B ao zs)(hk:Kept NoB w w'):RdI w' B ao zs:=h.kept hk (fun _ _ h=>h)
theorem count_step (ls:List Int)(i:Nat)(h:i < ls.length):(ls.take i).count (ls.getD i 0)+1=(ls.take (i+1)).count (ls.getD i 0):=by
 rw [take_snoc ls i h,List.count_append];simp
theorem count_mono (ls:List Int)(z:Int)(i j:Nat)(h:i≤j):(ls.take i).count z≤(ls.take j).count z:=by
 have e:ls.take i=(ls.take j).take i:=by rw [List.take_take,Nat.min_eq_left h]
 rw [e]
 exact List.Sublist.count_le z (List.take_sublist _ _)
theorem count_all (ls:List Int)(z:Int)(i:Nat):(ls.take i).count z≤ls.count z:=List.Sublist.count_le z (List.take_sublist _ _)
theorem fC_grow (ls:List Int)(hl:ls.length≤320)(a:Nat)(ha:1≤a)(ha15:a≤15):∀ d,a+1+d≤16→(fC (cntsL ls) a+((ls.count (a:Int):Nat):Int))*((2 ^ (d+1):Nat):Int)≤fC (cntsL ls) (a+1+d)
 | 0,_=>by
  rw [Nat.add_zero,fC_succ _ a ha,cnts_get _ _ (by omega)]
  simp
 | d+1,h=>by
  have ih:=fC_grow ls hl a ha ha15 d (by omega)
  have hb:=cnts_bd ls hl (a+1+d)
  rw [show a+1+(d+1)=(a+1+d)+1 by omega,fC_succ _ (a+1+d) (by omega),Nat.pow_succ,Int.natCast_mul,← Int.mul_assoc]
  have:(((2:Nat)):Int)=2:=rfl
  rw [this]
  omega
theorem code_free (ls:List Int)(hl:ls.length≤320)(hs:Small 15 ls)(i k:Nat)(hi:i < ls.length)(hk:k < ls.length)(hne:i≠k)(h0:0 < ls.getD i 0)(d:Nat)(hd:ls.getD i 0+(d:Int)=ls.getD k 0):
  ¬ codeAt ls k / 2 ^ d=codeAt ls i∧(d=0→(i < k↔codeAt ls i < codeAt ls k)):=by
 have hbi:=hs.getD i hi
 have hbk:=hs.getD k hk
 obtain ⟨a,ha⟩:∃ a:Nat,(a:Int)=ls.getD i 0:=⟨(ls.getD i 0).toNat,by omega⟩
 have ci:codeAt ls i=fC (cntsL ls) a+(((ls.take i).count (a:Int):Nat):Int):=by
  unfold codeAt;rw [if_pos h0,← ha,Int.toNat_natCast]
 have ck:codeAt ls k=fC (cntsL ls) (a+d)+(((ls.take k).count ((a+d:Nat):Int):Nat):Int):=by
  unfold codeAt;rw [if_pos (by omega),← hd,← ha,← Int.natCast_add,Int.toNat_natCast]
 have hri:(ls.take i).count (a:Int) < ls.count (a:Int):=by
  have h1:=count_step ls i hi
  rw [← ha] at h1
  have h2:=count_all ls (a:Int) (i+1)
  omega
 by_cases hd0:d=0
 ·subst hd0
  rw [Nat.add_zero] at ck
  have h1:=count_step ls i hi
  have h2:=count_step ls k hk
  rw [← hd,Int.natCast_zero,Int.add_zero] at h2
  rw [← ha] at h1 h2
  have key:i < k↔codeAt ls i < codeAt ls k:=by
   rw [ci,ck]
   constructor
   ·intro h
    have:=count_mono ls (a:Int) (i+1) k h
    omega
   ·intro h
    refine Nat.lt_of_not_le (fun hle=>?_)
    have:=count_mono ls (a:Int) k i hle
    omega
  refine ⟨?_,fun _=>key⟩
  simp only [Int.pow_zero,Int.ediv_one]
  intro e
  rcases Nat.lt_or_gt_of_ne hne with h | h
  ·have:=key.1 h;omega
  ·have hk2:=count_mono ls (a:Int) (k+1) i h
   rw [ci,ck] at e
   omega
 ·obtain ⟨d',rfl⟩:∃ d',d=d'+1:=⟨d - 1,by omega⟩
  refine ⟨fun e=>?_,fun h=>by omega⟩
  have hg:=fC_grow ls hl a (by omega) (by omega) d' (by omega)
  have e2:a+1+d'=a+(d'+1):=by omega
  rw [e2] at hg
  have hck:fC (cntsL ls) (a+(d'+1))≤codeAt ls k:=by rw [ck];omega
  have hpow:(2:Int) ^ (d'+1)=((2 ^ (d'+1):Nat):Int):=by rw [Int.natCast_pow];rfl
  rw [hpow] at e
  have hpp:(0:Int) < ((2 ^ (d'+1):Nat):Int):=by
   have:=Nat.two_pow_pos (d'+1);omega
  have h3:fC (cntsL ls) a+((ls.count (a:Int):Nat):Int)≤codeAt ls k / ((2 ^ (d'+1):Nat):Int):=(Int.le_ediv_iff_mul_le hpp).2 (by omega)
  rw [e,ci] at h3
  omega
theorem codeAt_bd (ls:List Int)(hl:ls.length≤320)(hs:Small 15 ls)(i:Nat)(hi:i < ls.length):0≤codeAt ls i∧codeAt ls i≤60000000:=by
 have hb:=hs.getD i hi
 unfold codeAt
 split
 ·have h1:=fC_bd (cntsL ls) (cnts_bd ls hl) (ls.getD i 0).toNat (by omega)
  have h2:=List.count_le_length (l:=ls.take i) (a:=ls.getD i 0)
  rw [List.length_take] at h2
  omega
 ·omega
theorem count_rep0:∀ n:Nat,(List.replicate n (0:Int)).count 0=n:=fun n=>by simp
theorem count_set:∀ n p:Nat,p < n→((List.replicate n (0:Int)).set p 1).count 0+1=n∧((List.replicate n (0:Int)).set p 1).count 1=1
 | 0,p,h=>by omega
 | n+1,0,_=>by
  rw [List.replicate_succ,List.set_cons_zero,List.count_cons,List.count_cons]
  have:(List.replicate n (0:Int)).count 1=0:=List.count_eq_zero.2 (fun h=>by have:=List.eq_of_mem_replicate h;omega)
  rw [count_rep0,this]
  simp
 | n+1,p+1,h=>by
  obtain ⟨h1,h2⟩:=count_set n p (by omega)
  rw [List.replicate_succ,List.set_cons_succ,List.count_cons,List.count_cons,h2]
  simp;omega
theorem ref_lens (ws:List Int)(lv:List Lf)(hok:LensOkP ws 15)(hs:SrtP lv (leavesL 0 ws)):refS (lensOf lv ws.length 15)=0:=by
 have hF:=lensF ws 15 lv hok hs
 have e15:(15:Int).toNat=15:=rfl
 rw [e15] at hF
 unfold refS
 rw [if_neg]
 by_cases n0:lv.length=0
 ·have e:lensOf lv ws.length 15=List.replicate ws.length 0:=by unfold lensOf;rw [if_pos n0]
  rw [e]
  unfold kindS
  rw [if_pos (by rw [count_rep0];simp)]
  omega
 ·by_cases n1:lv.length=1
  ·have e:lensOf lv ws.length 15=(List.replicate ws.length 0).set (lv.getD 0 (0,0)).1.toNat 1:=by unfold lensOf;rw [if_neg n0,if_pos n1]
   have hm:lv.getD 0 (0,0)∈lv:=getD_mem lv 0 (by omega)
   obtain ⟨_,q,hq,hql⟩:=leaf_place hok.small hs _ hm
   have hc:=count_set ws.length q hql
   rw [e,hq,Int.toNat_natCast]
   unfold kindS
   rw [List.length_set,List.length_replicate,if_neg (by omega),if_pos ⟨by omega,hc.2⟩]
   omega
  ·have hk:=hF.kraft
   rw [if_neg n0,if_neg n1] at hk
   unfold kindS
   rw [hk]
   split
   ·omega
   ·split
    ·omega
    ·simp
end Go.Proofs.YtfmjfgmbjdhogaaGreatDoor
