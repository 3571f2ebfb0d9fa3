import Derived.Test.YtfmjfgmbjdhogaaGreatDoorMb28
import Derived.Deep.CutBlock
set_option linter.unusedVariables false
set_option linter.unusedSimpArgs false
set_option maxRecDepth 20000
set_option maxHeartbeats 8000000
namespace Go.Proofs.YtfmjfgmbjdhogaaGreatDoor
open Go.RowKit
structure HeadF (code:List Int)(told:Nat)(rs:List (Int × Int))(F:List Int):Prop where
 runs:rs=restR F 0
 best:∃ lv,SrtP lv (leavesL 0 (cnt19 rs))∧code=lensOf lv 19 7
 top:told=4∨code.getD (ordL.getD (told - 1) 0).toNat 0≠0
theorem HeadF.det {code code2 F:List Int}{told told2:Nat}{rs rs2:List (Int × Int)}(h:HeadF code told rs F)(hc:CodeW code told rs F)(h2:HeadF code2 told2 rs2 F)(hc2:CodeW code2 told2 rs2 F):code=code2∧told=told2∧rs=rs2:=by
 have er:rs=rs2:=by rw [h.runs,h2.runs]
 subst er
 obtain ⟨lv,hs,e⟩:=h.best
 obtain ⟨lv2,hs2,e2⟩:=h2.best
 have el:lv=lv2:=srtP_eq hs hs2
 subst el
 have ec:code=code2:=by rw [e,e2]
 subst ec
 refine ⟨rfl,?_,rfl⟩
 apply Classical.byContradiction
 intro hne
 have h4:=hc.lo;have h5:=hc2.lo;have h6:=hc.hi;have h7:=hc2.hi
 rcases Nat.lt_or_gt_of_ne hne with hlt | hlt
 ·rcases h2.top with ht | ht
  ·omega
  ·exact ht (hc.rest (told2 - 1) (by omega) (by omega))
 ·rcases h.top with ht | ht
  ·omega
  ·exact ht (hc2.rest (told - 1) (by omega) (by omega))
set_option maxHeartbeats 16000000 in
theorem lensWrite_f (la:Option Addr)(lc:Nat)(lit:List Int)(da:Option Addr)(dc:Nat)(dist:List Int)(B R:Nat)(ao:Option Addr)(cap:Nat)(bs:List Int)(s:Nat)(w:World)(hx:RdI w B la lit)(hy:RdI w B da dist)
  (hw:Wtr w R ao cap bs s) (hb:headB lit dist=true) (hss:s≤1000000):
  Calls Tryz.prog 124 #[.pointer (some ⟨R,0,none⟩),.slice la lit.length lc,.slice da dist.length dc] w fun e w'=>∃ ao' cap' bs' code told rs,e = .returned (.int .i64 0)∧CodeW code told rs (lit++dist)∧HeadF code told rs (lit++dist)∧WroteP w R (.slice ao bs.length cap) bs s (headW lit dist code told rs) w' ao' cap' bs':=by
 obtain ⟨i0,hi,hz0,hz1,hz2⟩:=info_parts infoI
 obtain ⟨⟨b1,b2,b3,b4⟩,s1,s2,hmay⟩:=head_small hb
 have hmb:=may_any la lc B lit da dc B dist w hx (fun z hz=>by have:=s1 z hz;omega) hy (fun z hz=>by have:=s2 z hz;omega) b1
 rw [hmay] at hmb
 obtain ⟨gl,ol,rfl,_,_⟩:=hx 0 (by omega)
 obtain ⟨gd,od,rfl,_,_⟩:=hy 0 (by omega)
 have HX:=Hd hx;have HY:=Hd hy;have HW:=Hd hw;have HS1:=Hd s1;have HS2:=Hd s2
 obtain ⟨nl,hnl⟩:∃ n,n=lit.length:=⟨_,rfl⟩
 obtain ⟨nd,hnd⟩:∃ n,n=dist.length:=⟨_,rfl⟩
 rw [← hnl,← hnd] at hmb
 rw [← hnl] at b1 b2
 rw [← hnd] at b3 b4
 have HMb:=Hd hmb;have HNl:=Hd hnl;have HNd:=Hd hnd
 rw [← hnl,← hnd]
 have g1:¬ (nl:Int) < 257:=by omega
 have g2:¬ (286:Int) < (nl:Int):=by omega
 have g3:¬ (nd:Int) < 1:=by omega
 have g4:¬ (30:Int) < (nd:Int):=by omega
 clear hx hy hw s1 s2 hb hmay hmb hnl hnd
 go_enter Tryz.func124,Tryz.ntmps124
 go_wp2_with fail
 with_reducible refine HMb.out.mono ?_
 rintro e w1 ⟨rfl,hk1⟩
 have HK1:=Hd hk1
 clear hk1 HMb g1 g2 g3 g4
 go_wp2_with fail
 have hkA:Kept NoB w1 (w1.alloc (.cells #[.slice (some ⟨gl,ol,none⟩) nl lc,.slice (some ⟨gd,od,none⟩) nd dc] 30)):=(Kept.refl _ _).alloc _
 have hcc:=concat_any w1.heap.size ⟨gl,ol,none⟩ lc lit ⟨gd,od,none⟩ dc B dist (w1.alloc (.cells #[.slice (some ⟨gl,ol,none⟩) nl lc,.slice (some ⟨gd,od,none⟩) nd dc] 30)) (by rw [← HNl.out];exact cell_new 0 rfl) (by rw [← HNd.out];exact cell_new 1 rfl)
  (HX.out.keptNo (HK1.out.trans hkA)) (HY.out.keptNo (HK1.out.trans hkA)) (by rw [← HNl.out];omega) (by rw [← HNd.out];omega)
 rw [← HNl.out,← HNd.out] at hcc
 have HCc:=Hd hcc;have HKA:=Hd (HK1.out.trans hkA)
 clear hcc hkA
 with_reducible refine HCc.out.mono ?_
 rintro e w2 ⟨ca,cc,rfl,hst⟩
 obtain ⟨F,hF⟩:∃ F,F=lit++dist:=⟨_,rfl⟩
 have hFl:F.length=nl+nd:=by rw [hF,List.length_append,HNl.out,HNd.out]
 rw [← hF] at hst
 have hFs:Small 15 F:=fun z hz=>by
  rw [hF] at hz
  rcases List.mem_append.1 hz with h | h
  ·exact HS1.out z h
  ·exact HS2.out z h
 have hrn:=runs_f ca cc F _ w2 hst.reads (by omega)
 rw [hFl] at hrn
 have HRn:=Hd hrn;have HK2:=Hd (HKA.out.trans hst.kept);have HF:=Hd hF;have HFl:=Hd hFl;have HFs:=Hd hFs
 clear hrn hst hF hFl hFs HCc HKA HK1
 go_wp2_with fail
 with_reducible refine HRn.out.mono ?_
 rintro e w3 ⟨rs,ra,rc,rfl,hro,hk3,_,hyes,_⟩
 obtain ⟨hrf,hT,hrl,hrne⟩:=hyes ⟨by rw [HFl.out];omega,HFs.out⟩
 have hrun:runAll (F.length:Int) [] rs=some F:=by
  have h:=hT (F.length:Int) [] (by omega)
  rw [List.append_nil,if_pos (Int.le_refl _),runAll] at h
  exact h
 have hrne2:rs≠[]:=hrne (fun e=>by have:=HFl.out;rw [e] at this;simp at this;omega)
 have hok:=runAll_ok _ rs [] F hrun
 have HRun:=Hd hrun;have HRne:=Hd hrne2;have HOk:=Hd hok;have HRo:=Hd hro;have HK3:=Hd (HK2.out.trans hk3)
 obtain ⟨m,hm⟩:∃ m,m=rs.length:=⟨_,rfl⟩
 have hm316:m≤320:=by have:=HFl.out;omega
 have HM:=Hd hm
 rw [← hm]
 have HRf:=Hd hrf
 clear hrf hT hrl hrne hrun hrne2 hok hro hk3 hyes hm HRn HK2
 go_wp2_with (at_make;refine wpList_make_full _ rfl _ _ _ rfl 0 3 i0 (.int .i64 0) 1 Tryz.underlying30 hi hz0 hz1 .i64 .i64 _ _ 19 rfl rfl rfl rfl (by rw [hz2];omega) (by unfold maxLen;omega) (Nat.zero_le _) ?_)
 intro w4 hown hgrow
 obtain ⟨G,hG⟩:∃ G,G=w3.heap.size:=⟨_,rfl⟩
 have hGw:w.heap.size≤G:=by rw [hG];exact HK3.out.size
 rw [← hG] at hown ⊢
 have hk4:Kept NoB w3 w4:=(Kept.refl NoB w3).grown hgrow (fun _ _ e=>by cases e)
 have hO4:w4.ownsRow 0 3 1 (.slice (some ⟨G,0,none⟩) 19 19) 19 ((cnt19 (rs.take 0)).map (.int .i64)):=by
  unfold cnt19
  rw [List.take_zero,cntR,List.map_replicate,← toList_madeCells_one];exact hown
 have HO4:=Hd hO4;have HK4:=Hd (HK3.out.trans hk4)
 have hrg:RdRnG w4 (fun k=>k < G) ra rs:=fun i hi=>by
  obtain ⟨g,o,h1,h2,h3,h4⟩:=HRo.out.reads i hi
  exact ⟨g,o,h1,by omega,hk4.cell h3,hk4.cell h4⟩
 have HRg:=Hd hrg;have HRo4:Hid (OwnR w4 ra rc rs):=Hd (hk4.row HRo.out (fun _ _ h=>h))
 clear hown hgrow hO4 hk4 hrg HRo HK3 hG
 go_wp2_with fail
 go_loopw [47,10] (fun v47 _ wr=>∃ i:Nat,v47 = .int .i64 (i:Int)∧i≤m∧Hid (wr.ownsRow 0 3 1 (.slice (some ⟨G,0,none⟩) 19 19) 19 ((cnt19 (rs.take i)).map (.int .i64)))∧Hid (Kept NoB w wr)∧Hid (RdRnG wr (fun k=>k < G) ra rs)∧Hid (OwnR wr ra rc rs)) (fun v47 _ _=>m - (intOf v47).toNat)
 case atStart=>exact ⟨0,rfl,by omega,HO4,HK4,HRg,HRo4⟩
 case round=>
  clear HO4 HK4 HRg HRo4
  obtain ⟨i,rfl,him,HO,HK,HRg,HRo⟩:=hrel
  by_cases hlt:(i:Int) < m
  ·have hil:i < rs.length:=by have:=HM.out;omega
   obtain ⟨g1,o1,rfl,_,x0,x0'⟩:=HRg.out i hil
   have htk:rs.take (i+1)=rs.take i++[rs.getD i (0,0)]:=by
    rw [List.take_succ_eq_append_getElem hil];simp [List.getD,hil]
   have hmem:rs.getD i (0,0)∈rs:=by
    have:rs.getD i (0,0)=rs[i]:=by simp [List.getD,hil]
    rw [this];exact List.getElem_mem hil
   have hrg:=HOk.out _ hmem
   obtain ⟨y,hy⟩:∃ y,y=rs.getD i (0,0):=⟨_,rfl⟩
   rw [← hy] at x0 x0' htk hrg
   obtain ⟨sy,x⟩:=y
   simp only at x0 x0' hrg
   obtain ⟨k,rfl⟩:∃ k:Nat,sy=(k:Int):=⟨sy.toNat,by omega⟩
   have hk19:k < 19:=by omega
   have hk19':(k:Int) < 19:=by omega
   have hsn:=cnt19_snoc (rs.take i) ((k:Int),x)
   rw [← htk] at hsn
   simp only [Int.toNat_natCast] at hsn
   have hcs:=cnt19_small (rs.take i)
   have hzb:=small_getD2 hcs k
   rw [List.length_take] at hzb
   have hmin:((min i rs.length:Nat):Int)≤320:=by have:=HM.out;omega
   obtain ⟨z,hz⟩:∃ z,z=(cnt19 (rs.take i)).getD k 0:=⟨_,rfl⟩
   rw [← hz] at hsn hzb
   obtain ⟨H,hH⟩:∃ H,H=wr.heap.size:=⟨_,rfl⟩
   have hkA:Kept NoB wr (wr.alloc (.cells #[.int .i64 (k:Int),.int .i64 x] 125)):=(Kept.refl _ _).alloc _
   have hc0:(wr.alloc (.cells #[.int .i64 (k:Int),.int .i64 x] 125)).cell? ⟨H,0,none⟩=some (.int .i64 (k:Int)):=by rw [hH];exact cell_new 0 rfl
   go_upto_region 10 with fail
   rw [← hH]
   obtain ⟨w5,hw5⟩:∃ w5,w5=wr.alloc (.cells #[.int .i64 (k:Int),.int .i64 x] 125):=⟨_,rfl⟩
   rw [← hw5] at hc0 hkA ⊢
   have hO5:=hkA.row HO.out (fun _ _ h=>h)
   have hcG:w5.cell? ⟨G,k,none⟩=some (.int .i64 z):=by
    rw [hO5.cellAt k (by omega),hz]
    simp [List.getD,List.getElem?_map,show k < (cnt19 (rs.take i)).length by rw [cnt19_len];exact hk19]
   have hfz:=hO5.frozenAt k
   have hst:=(hO5.stored k (.int .i64 (z+1))).1
   rw [← List.map_set,← hsn] at hst
   have hks:Kept (fun j=>j=G) w5 (w5.setCell ⟨G,k,none⟩ (.int .i64 (z+1))):=Kept.setCell (S:=fun j=>j=G) (p:=⟨G,k,none⟩) (Kept.refl _ w5) (.inl rfl) _
   have hkw:Kept NoB w (w5.setCell ⟨G,k,none⟩ (.int .i64 (z+1))):=Kept.setCell (p:=⟨G,k,none⟩) (HK.out.trans hkA) (.inr hGw) _
   have HRg5:=Hd ((HRg.out.kept hkA (fun k e h=>h)).kept hks (fun k (e:k < G) h=>by have h:k=G:=h;omega))
   have hro5:OwnR (w5.setCell ⟨G,k,none⟩ (.int .i64 (z+1))) (some ⟨g1,o1,none⟩) rc rs:=hks.row (hkA.row HRo.out (fun _ _ h=>h)) (fun j e h=>by
    have h:j=G:=h
    simp [Value.ownBlock] at e
    omega)
   have hz1:z+1≤1000:=by omega
   have hz0:0≤z:=hzb.1
   have HSt:=Hd hst;have HKw:=Hd hkw;have HRo5:=Hd hro5
   clear hst hks hkw hz hsn hcs hzb hmin htk hmem hrg hy hkA hw5 hO5 hro5 hH HO HK HRg HRo
   go_wp2
   go_roundw
   case rel=>exact ⟨i+1,by go_num,by omega,HSt,HKw,HRg5,HRo5⟩
   case measure=>simp [intOf];omega
  ·have him2:i=m:=by omega
   subst him2
   have htk:rs.take i=rs:=List.take_of_length_le (by rw [← HM.out];exact Nat.le_refl _)
   have ho:=HO.out
   rw [htk] at ho
   obtain ⟨A,hA⟩:∃ A,A=cnt19 rs:=⟨_,rfl⟩
   have hAl:A.length=19:=by rw [hA,cnt19_len]
   have hAs:Small 1000000 A:=fun z hz=>by
    have:=cnt19_small rs z (hA ▸ hz)
    have:=HM.out
    omega
   have hApos:∀ y∈rs,0 < A.getD y.1.toNat 0:=fun y hy=>by
    have h:=HOk.out y hy
    rw [hA];exact cnt19_pos rs y hy (by omega)
   rw [← hA] at ho
   have hok:LensOkP A 7:=⟨by omega,by omega,hAs,by
    have:=leaves_len A 0
    have h2:(2:Nat) ^ (7:Int).toNat=128:=by decide
    rw [h2];omega⟩
   obtain ⟨y0,hy0⟩:∃ y0,y0∈rs:=List.exists_mem_of_ne_nil _ HRne.out
   have hlc:=lens_yes (some ⟨G,0,none⟩) 19 _ A 7 wr (own_readsI ho hAl) hok
   rw [hAl] at hlc
   have hcode:∀ lv,SrtP lv (leavesL 0 A)→(lensOf lv 19 7).length=19∧Small 7 (lensOf lv 19 7)∧fullB (lensOf lv 19 7)=true∧∀ y∈rs,HasC (lensOf lv 19 7) y.1:=fun lv h=>by
    have h1:=HOk.out y0 hy0
    obtain ⟨c1,c2,c3,c4⟩:=code_of A lv hok h y0.1.toNat (by omega) (hApos y0 hy0)
    rw [hAl] at c1 c2 c3 c4
    refine ⟨c1,c2,c3,fun y hy=>?_⟩
    have h2:=HOk.out y hy
    exact ⟨y.1.toNat,by omega,by omega,(c4 _ (by omega)).1 (hApos y hy)⟩
   have HLc:=Hd hlc;have HCode:=Hd hcode;have HAe:=Hd hA
   clear htk ho hA hAl hAs hApos hok hy0 hlc hcode hlt HO
   go_wp2_with fail
   with_reducible refine HLc.out.mono ?_
   rintro e w5 ⟨lv,hsrt,za,zc,rfl,hzo,hk5⟩
   obtain ⟨q1,q2,q3,q4⟩:=HCode.out lv hsrt
   obtain ⟨Z,hZ⟩:∃ Z,Z=lensOf lv 19 7:=⟨_,rfl⟩
   have e7:(7:Int).toNat=7:=rfl
   rw [e7] at hzo
   have HZe:Hid (∃ lv,SrtP lv (leavesL 0 (cnt19 rs))∧Z=lensOf lv 19 7):=Hd ⟨lv,by rw [← HAe.out];exact hsrt,hZ⟩
   rw [← hZ] at q1 q2 q3 q4 hzo
   rw [e7,← hZ,q1]
   rw [q1] at hzo
   obtain ⟨gz,rfl⟩:=own_some hzo (by decide)
   have HQ1:=Hd q1;have HQ2:=Hd q2;have HQ3:=Hd q3;have HQ4:=Hd q4;have HZo:=Hd hzo;have HK5:=Hd (HK.out.trans hk5);have HRo5:=Hd (hk5.row HRo.out (fun _ _ h=>h))
   clear q1 q2 q3 q4 hzo hk5 hsrt hZ HCode HLc HRo HRg HK
   go_wp2_with fail
   with_reducible refine (order19 w5).mono ?_
   rintro e w6 ⟨rfl,hor,hk6,hlt6⟩
   obtain ⟨H,hH⟩:∃ H,H=w5.heap.size:=⟨_,rfl⟩
   have hHw:w.heap.size≤H:=by rw [hH];exact HK5.out.size
   rw [← hH] at hor ⊢
   have hcw:∀ i,i < 19→w6.cell? ⟨H,i,none⟩=some (.int .i64 (ordL.getD i 0)):=fun i hi=>by
    obtain ⟨g,o,h1,h2,h3⟩:=hor i hi
    cases h1
    simpa using h3
   have HCw:=Hd hcw;have HK6:=Hd (HK5.out.trans hk6);have HRo6:=Hd (hk6.row HRo5.out (fun _ _ h=>h));have HZ6:=Hd (hk6.row HZo.out (fun _ _ h=>h))
   have hgz:=(HZo.out.lt gz rfl).2
   have hHgz:gz≠H:=by omega
   have hHlt:H < w6.heap.size:=by omega
   clear hcw hor hk6 hlt6 hgz HK5 HRo5 HZo hH
   go_upto_block 2 with fail
   go_cut [14] from 70 to 85 (fun v14 wx=>∃ t:Nat,v14 = .int .i64 (t:Int)∧4≤t∧t≤19∧Hid (∀ i,t≤i→i < 19→Z.getD (ordL.getD i 0).toNat 0=0)∧Hid (t=4∨Z.getD (ordL.getD (t - 1) 0).toNat 0≠0)∧w6=wx)
   case first=>
    go_wp2_with fail
    go_loopw [14] (fun v14 wx=>∃ t:Nat,v14 = .int .i64 (t:Int)∧4≤t∧t≤19∧Hid (∀ i,t≤i→i < 19→Z.getD (ordL.getD i 0).toNat 0=0)∧w6=wx) (fun v14 _=>(intOf v14).toNat)
    case atStart=>exact ⟨19,rfl,by omega,by omega,Hd (fun i h1 h2=>by omega),rfl⟩
    case round=>
     obtain ⟨t,rfl,ht4,ht19,HZr,rfl⟩:=hrel
     by_cases hgt:4 < t
     ·have hgt2:(4:Int) < (t:Int):=by omega
      obtain ⟨u,hu⟩:∃ u,t=u+1:=⟨t - 1,by omega⟩
      have hu1:IntKind.i64.wrap ((t:Int) - 1)=(u:Int):=by rw [IntWalk.i64_in _ (by omega)];omega
      have hu2:(t:Int) - 1=(u:Int):=by omega
      have hu19:u < 19:=by omega
      have hu19':(u:Int) < 19:=by omega
      have hc:=HCw.out u hu19
      have ho:=ord_lt u hu19
      have hoa:=ord_at u hu19
      obtain ⟨k,hk⟩:∃ k:Nat,ordL.getD u 0=(k:Int):=⟨(ordL.getD u 0).toNat,by omega⟩
      have HKe:=Hd hk
      rw [hk] at hc ho hoa
      have hk19':(k:Int) < 19:=by omega
      have hk19:k < 19:=by omega
      have hcz:w6.cell? ⟨gz,k,none⟩=some (.int .i64 (Z.getD k 0)):=by
       rw [HZ6.out.cellAt k (by omega)]
       simp [List.getD,List.getElem?_map,show k < Z.length by rw [HQ1.out];exact hk19]
      obtain ⟨z,hz⟩:∃ z,z=Z.getD k 0:=⟨_,rfl⟩
      rw [← hz] at hcz
      have HZz:=Hd hz
      have HU:=Hd hu
      clear hk hz hu ho hoa
      by_cases hz0':z=0
      ·subst hz0'
       go_wp2
       go_roundw
       case rel=>exact ⟨u,by go_num,by omega,by omega,Hd (fun i h1 h2=>by
        by_cases e:i=u
        ·subst e;rw [HKe.out,Int.toNat_natCast];exact HZz.out.symm
        ·exact HZr.out i (by have:=HU.out;omega) h2),trivial⟩
       case measure=>have:=HU.out;simp [intOf];omega
      ·have hzb:(z == 0)=false:=by simp [hz0']
       have HNz:Hid (t=4∨Z.getD (ordL.getD (t - 1) 0).toNat 0≠0):=Hd (.inr (by
        rw [show t - 1=u by have:=HU.out;omega,HKe.out,Int.toNat_natCast,← HZz.out];exact hz0'))
       go_wp2
       go_meet
       exact ⟨t,rfl,ht4,ht19,HZr,HNz,rfl⟩
     ·have ht:¬ (4:Int) < (t:Int):=by omega
      go_wp2
      go_meet
      exact ⟨t,rfl,ht4,ht19,HZr,Hd (.inl (by omega)),rfl⟩
   case rest=>
   obtain ⟨t,rfl,ht4,ht19,HZr,HNz,rfl⟩:=hcut
   have hrsl:0 < rs.length:=by
    have:=HRne.out
    cases rs with
    | nil=>exact absurd rfl this
    | cons=>simp
   obtain ⟨gr,rfl⟩:=own_some HRo6.out hrsl
   have hw0:=HW.out.keptNo HK6.out
   have HDz:=Hd (row_off (T:=0) HZ6.out hw0 (by decide) (by decide))
   have HDr:=Hd (row_off (T:=0) HRo6.out hw0 (by decide) (by decide))
   have HDh:Hid (¬ OrB (OneB R) (OwnB (.slice ao bs.length cap)) H):=Hd (by
    rintro (h | h)
    ·unfold OneB at h
     have:=obj_lt HW.out.1
     omega
    ·have:=own_lt HW.out.2.1 H h
     omega)
   clear hrsl hw0
   obtain ⟨x1,hx1⟩:∃ x,x=nl - 257:=⟨_,rfl⟩
   obtain ⟨x2,hx2⟩:∃ x,x=nd - 1:=⟨_,rfl⟩
   obtain ⟨x3,hx3⟩:∃ x,x=t - 4:=⟨_,rfl⟩
   have d1:(nl:Int) - 257=(x1:Int):=by omega
   have d2:(nd:Int) - 1=(x2:Int):=by omega
   have d3:(t:Int) - 4=(x3:Int):=by omega
   have y1:x1 < 32:=by omega
   have y2:x2 < 32:=by omega
   have y3:x3 < 16:=by omega
   have c1:IntKind.u32.wrap (x1:Int)=(x1:Int):=IntWalk.u32_in _ (by omega)
   have c2:IntKind.u32.wrap (x2:Int)=(x2:Int):=IntWalk.u32_in _ (by omega)
   have c3:IntKind.u32.wrap (x3:Int)=(x3:Int):=IntWalk.u32_in _ (by omega)
   have hw6:=HW.out.keptNo HK6.out
   have hp:=put_any w6 R ao cap bs s x1 5 hw6 (by omega) (by decide) (by omega)
   rw [Nat.mod_eq_of_lt (show x1 < 2 ^ 5 from y1),show ((5:Nat):Int)=5 from rfl] at hp
   have HX1:=Hd hx1;have HX2:=Hd hx2;have HX3:=Hd hx3;have HP:=Hd hp;have HW6:=Hd hw6
   clear hx1 hx2 hx3 hp hw6
   go_wp2_with fail
   with_reducible refine HP.out.mono ?_
   intro e w7 hp
   obtain ⟨ao7,cap7,bs7,rfl,hw7⟩:=(WroteP.nil HW6.out).put hp
   have hp2:=put_any w7 R ao7 cap7 bs7 _ x2 5 hw7.1 (by omega) (by decide) (by simp [wdN];omega)
   rw [Nat.mod_eq_of_lt (show x2 < 2 ^ 5 from y2),show ((5:Nat):Int)=5 from rfl] at hp2
   have HW7:=Hd hw7;have HP2:=Hd hp2
   clear hp hp2 hw7 HP
   go_wp2_with fail
   with_reducible refine HP2.out.mono ?_
   intro e w8 hp
   obtain ⟨ao8,cap8,bs8,rfl,hw8⟩:=HW7.out.put hp
   have hp3:=put_any w8 R ao8 cap8 bs8 _ x3 4 hw8.1 (by omega) (by decide) (by simp [wdN];omega)
   rw [Nat.mod_eq_of_lt (show x3 < 2 ^ 4 from y3),show ((4:Nat):Int)=4 from rfl] at hp3
   have HW8:=Hd hw8;have HP3:=Hd hp3
   clear hp hp3 hw8 HP2 HW7
   go_wp2_with fail
   with_reducible refine HP3.out.mono ?_
   intro e w9 hp
   obtain ⟨ao9,cap9,bs9,rfl,hw9⟩:=HW8.out.put hp
   have HW9:=Hd (show WroteP w6 R (.slice ao bs.length cap) bs s ([(x1,5),(x2,5),(x3,4)]++wordsC Z 0) w9 ao9 cap9 bs9 from hw9)
   clear hp hw9 HP3 HW8
   have t0:(0:Int)≤(t:Int):=by omega
   have t19:(t:Int)≤19:=by omega
   go_wp2_with fail
   go_loopw [106,16] (fun v106 _ wr=>∃ (i:Nat) (ao':Option Addr) (cap':Nat) (bs':List Int),v106 = .int .i64 (i:Int)∧i≤t∧Hid (WroteP w6 R (.slice ao bs.length cap) bs s ([(x1,5),(x2,5),(x3,4)]++wordsC Z i) wr ao' cap' bs')) (fun v106 _ _=>t - (intOf v106).toNat)
   case atStart=>exact ⟨0,ao9,cap9,bs9,rfl,by omega,HW9⟩
   case round=>
    clear HW9
    obtain ⟨j,ao',cap',bs',rfl,hjt,HWr⟩:=hrel
    by_cases hlt:(j:Int) < t
    ·have hj19:j < 19:=by omega
     have hc0:=HCw.out j hj19
     have hoa:=ord_at j hj19
     obtain ⟨k,hk⟩:∃ k:Nat,ordL.getD j 0=(k:Int):=⟨(ordL.getD j 0).toNat,by omega⟩
     rw [hk] at hc0 hoa
     have hk19:k < 19:=by omega
     have hk19':(k:Int) < 19:=by omega
     have hcz0:w6.cell? ⟨gz,k,none⟩=some (.int .i64 (Z.getD k 0)):=by
      rw [HZ6.out.cellAt k (by omega)]
      simp [List.getD,List.getElem?_map,show k < Z.length by rw [HQ1.out];exact hk19]
     have hzb:=HQ2.out.getD k (by rw [HQ1.out];exact hk19)
     obtain ⟨z,hz⟩:∃ z:Nat,Z.getD k 0=(z:Int):=⟨(Z.getD k 0).toNat,by omega⟩
     rw [hz] at hcz0 hzb
     have hkk:=HWr.out.2.2.1
     have hc:=(World.cell?_of_block (hkk.block _ (World.block_lt_of_cell? w6 _ hc0) HDh.out)).trans hc0
     have hcz:=(World.cell?_of_block (hkk.block _ (World.block_lt_of_cell? w6 _ hcz0) HDz.out)).trans hcz0
     have hz8:z < 8:=by omega
     have cz:IntKind.u32.wrap (z:Int)=(z:Int):=IntWalk.u32_in _ (by omega)
     have hwd:wdN ([(x1,5),(x2,5),(x3,4)]++wordsC Z j)=14+3*j:=by rw [wdN_append,wordsC_wd];rfl
     have hp:=put_any wr R ao' cap' bs' _ z 3 HWr.out.1 (by omega) (by decide) (by rw [hwd];omega)
     rw [Nat.mod_eq_of_lt (show z < 2 ^ 3 from hz8),show ((3:Nat):Int)=3 from rfl] at hp
     have HP:=Hd hp
     have HWs:Hid (wordsC Z (j+1)=wordsC Z j++[(z,3)]):=Hd (by rw [wordsC_snoc,hk,Int.toNat_natCast,hz,Int.toNat_natCast])
     clear hc0 hcz0 hoa hk hz hkk hwd hp hzb
     go_wp2_with fail
     with_reducible refine HP.out.mono ?_
     intro e w10 hp
     obtain ⟨ao10,cap10,bs10,rfl,hw10⟩:=HWr.out.put hp
     rw [List.append_assoc,← HWs.out] at hw10
     have HW10:=Hd hw10
     clear hp hw10 HP
     go_wp2
     go_roundw
     case rel=>exact ⟨j+1,ao10,cap10,bs10,by go_num,by omega,HW10⟩
     case measure=>simp [intOf];omega
    ·have hjt2:j=t:=by omega
     subst hjt2
     have hkk:=HWr.out.2.2.1
     have hcode:RdG wr (fun k=>k=gz∨k=gr) (some ⟨gz,0,none⟩) Z:=fun i hi=>by
      have hc0:w6.cell? ⟨gz,i,none⟩=some (.int .i64 (Z.getD i 0)):=by
       rw [HZ6.out.cellAt i (by rw [HQ1.out] at hi;omega)]
       simp [List.getD,List.getElem?_map,hi]
      exact ⟨gz,0,rfl,.inl rfl,by rw [Nat.zero_add];exact (World.cell?_of_block (hkk.block _ (World.block_lt_of_cell? w6 _ hc0) HDz.out)).trans hc0⟩
     have hruns:RdRnG wr (fun k=>k=gz∨k=gr) (some ⟨gr,0,none⟩) rs:=fun i hi=>by
      obtain ⟨g,o,h1,_,h3,h4⟩:=OwnR.reads HRo6.out i hi
      cases h1
      exact ⟨gr,0,rfl,.inr rfl,(World.cell?_of_block (hkk.block _ (World.block_lt_of_cell? w6 _ h3) HDr.out)).trans h3,(World.cell?_of_block (hkk.block _ (World.block_lt_of_cell? w6 _ h4) HDr.out)).trans h4⟩
     have hwd:wdN ([(x1,5),(x2,5),(x3,4)]++wordsC Z j)=14+3*j:=by rw [wdN_append,wordsC_wd];rfl
     have hnew:∀ k,(k=gz∨k=gr)→¬ (Value.slice ao' bs'.length cap').ownBlock=some k:=fun k hk e=>by
      rcases HWr.out.2.2.2 k e with h | h
      ·rcases hk with rfl | rfl
       ·exact HDz.out (.inr h)
       ·exact HDr.out (.inr h)
      ·rcases hk with rfl | rfl
       ·have:=(HZ6.out.lt k rfl).2;omega
       ·have:=(HRo6.out.lt k rfl).2;omega
     have hwr:=writeRuns_any Z (some ⟨gz,0,none⟩) zc rs (some ⟨gr,0,none⟩) rc (fun k=>k=gz∨k=gr) R ao' cap' bs' _ wr hcode hruns HWr.out.1 (by
       rintro (h | h)
       ·exact HDz.out (.inl (by unfold OneB;exact h.symm))
       ·exact HDr.out (.inl (by unfold OneB;exact h.symm))) (fun k e h=>hnew k h e) (small7_15 HQ2.out) (by rw [HQ1.out];decide) (full_ref HQ3.out)
      (fun y hy=>⟨HQ4.out y hy,(HOk.out y hy).2.2⟩) (by rw [← HM.out];omega) (by rw [hwd];omega)
     rw [HQ1.out,← HM.out] at hwr
     have HWrr:=Hd hwr
     clear hkk hcode hruns hwd hnew hwr
     go_wp2_with fail
     with_reducible refine HWrr.out.mono ?_
     rintro e w11 ⟨ao11,cap11,bs11,rfl,hw11⟩
     have hfin:=HWr.out.app hw11
     have HFin:=Hd hfin
     clear hw11 hfin HWrr
     go_wp2
     go_ret
     refine ⟨ao11,cap11,bs11,Z,j,rs,rfl,⟨HQ1.out,HQ2.out,HQ3.out,ht4,ht19,HZr.out,HQ4.out,by rw [← HF.out];exact HRun.out⟩,⟨by rw [← HF.out];exact HRf.out,HZe.out,HNz.out⟩,?_⟩
     have hh:=HFin.out
     refine ⟨?_,?_,(HK6.out.mono (fun _ _ h=>h.elim)).trans hh.2.2.1,fun k hk=>?_⟩
     ·unfold headW;rw [← HNl.out,← HNd.out,← HX1.out,← HX2.out,← HX3.out];exact hh.1
     ·unfold headW;rw [← HNl.out,← HNd.out,← HX1.out,← HX2.out,← HX3.out];exact hh.2.1
     ·rcases hh.2.2.2 k hk with h | h
      ·exact .inl h
      ·have:=HK6.out.size;exact .inr (by omega)
theorem BestL.det {least:Nat}{ws zs zs2:List Int}(h:BestL least ws zs)(h2:BestL least ws zs2):zs=zs2:=by
 obtain ⟨lv,n,hs,ht,rfl⟩:=h
 obtain ⟨lv2,n2,hs2,ht2,rfl⟩:=h2
 have el:lv=lv2:=srtP_eq hs hs2
 subst el
 have en:n=n2:=by
  apply Classical.byContradiction
  intro hne
  have h1:=ht.lo;have h3:=ht2.lo;have h4:=ht.hi;have h5:=ht2.hi
  rcases Nat.lt_or_gt_of_ne hne with hlt | hlt
  ·rcases ht2.top with h | h
   ·omega
   ·exact h (ht.tail (n2 - 1) (by omega) (by omega))
  ·rcases ht.top with h | h
   ·omega
   ·exact h (ht2.tail (n - 1) (by omega) (by omega))
 rw [en]
def DynF (w:World)(R:Nat)(ao:Option Addr)(cap:Nat)(bs:List Int)(s:Nat)(last:Bool)(ts:List Tk)(e:Ending)(w':World):Prop:=
 ∃ lit dist code told rs ws ao' cap' bs',e = .returned (.int .i64 0)∧BestL 257 (tally ts).1 lit∧BestL 1 (tally ts).2 dist∧CodeW code told rs (lit++dist)∧HeadF code told rs (lit++dist)∧TokWs lit dist ts ws∧
  WroteP w R (.slice ao bs.length cap) bs s ([(lastN last,1),(2,2)]++(headW lit dist code told rs++(ws++[wordZ lit 256]))) w' ao' cap' bs'
theorem dynamic_f (w:World)(R:Nat)(ao:Option Addr)(cap:Nat)(bs:List Int)(s:Nat)(last:Bool)(ta:Option Addr)(tc:Nat)(ts:List Tk)
  (h:Wtr w R ao cap bs s) (hss:s≤900000) (hr:Toks w ta ts) (hsep:ts≠[]→∀ a,ta=some a→a.block≠R∧(Value.slice ao bs.length cap).ownBlock≠some a.block) (htl:ts.length≤900000) (hwf:AllT ts) (hok:allOkB ts=true):
  Calls Tryz.prog 94 #[.pointer (some ⟨R,0,none⟩),.bool last,.slice ta ts.length tc] w (DynF w R ao cap bs s last ts):=by
 have HA:=Hd (allOk_any ta tc ts w hr (by unfold maxLen;omega))
 have hto:=lensOk_tally ts (by omega)
 have hb:=tally_b2 ts
 have H:=Hd h;have HR:=Hd hr;have HSep:=Hd hsep;have HTl:=Hd htl;have HTo:=Hd hto;have HBt:=Hd hb;have HWf:=Hd hwf;have HOk:=Hd hok
 rw [hok] at HA
 clear h hr hsep hwf hok htl hto hb
 go_enter Tryz.func94,Tryz.ntmps94
 go_wp2_with fail
 refine HA.out.mono ?_
 rintro e w1 ⟨rfl,hk1⟩
 have HK1:=Hd hk1
 have HCn:=Hd (counts_any2 ta tc ts w1 (HR.out.keptNo hk1) (by have:=HTl.out;omega) HWf.out)
 clear hk1 HA
 go_wp2_with fail
 refine HCn.out.mono ?_
 rintro e w2 ⟨G,K,rfl,hT⟩
 have HBs:=Hd (bestLens_yes (some ⟨G,0,none⟩) 286 (tally ts).1 (some ⟨K,0,none⟩) 30 (tally ts).2 _ w2 (hT.a.reads HBt.out.1) (hT.b.reads HBt.out.2.1) HBt.out.1 HBt.out.2.1 HTo.out.1 HTo.out.2)
 have HK2:=Hd (HK1.out.trans hT.k)
 clear hT HCn HK1
 go_wp2_with fail
 refine HBs.out.mono ?_
 rintro e w3 ⟨a1,c1,a2,c2,lit,dist,rfl,hb1,hb2,ho1,ho2,hk3⟩
 have hK3:=HK2.out.trans hk3
 have hhead:=best_head (by have:=HTl.out;omega) hb1 hb2
 have HHd:=Hd hhead
 have HTs:=Hd (best_toks (by have:=HTl.out;omega) HWf.out HOk.out hb1 hb2)
 have HB1:=Hd hb1;have HB2:=Hd hb2;have HO1:=Hd ho1;have HO2:=Hd ho2;have HK3:=Hd hK3
 have HW3:=Hd (H.out.keptNo hK3)
 have hp:=putType_any w3 R ao cap bs s 2 last HW3.out (by decide) (by omega)
 rw [show ((2:Nat):Int)=2 from rfl] at hp
 have HP:=Hd hp
 clear hb1 hb2 ho1 ho2 hk3 hK3 hhead hp HBs HK2
 go_wp2_with fail
 refine HP.out.mono ?_
 rintro e w4 ⟨a4,c4,b4,rfl,hW⟩
 have hO1:=HO1.out.kept hW.2.2.1 (fun g e=>HO1.out.off HW3.out g e)
 have hO2:=HO2.out.kept hW.2.2.1 (fun g e=>HO2.out.off HW3.out g e)
 have HLw:=Hd (lensWrite_f a1 c1 lit a2 c2 dist _ R a4 c4 b4 _ w4 hO1.reads hO2.reads hW.1 HHd.out.2.2.2 (by simp only [wdN];omega))
 have HW:=Hd (hW.base HK3.out)
 have HO1b:=Hd hO1;have HO2b:=Hd hO2
 clear hW hO1 hO2 HP
 go_wp2_with fail
 refine HLw.out.mono ?_
 rintro e w5 ⟨a5,c5,b5,code,told,rs,rfl,hcw,hhf,hW5⟩
 have HHf:=Hd hhf
 clear hhf
 have hO1:=HO1b.out.kept hW5.2.2.1 (fun g e=>HO1b.out.off HW.out.1 g e)
 have hO2:=HO2b.out.kept hW5.2.2.1 (fun g e=>HO2b.out.off HW.out.1 g e)
 have hW5b:=HW.out.app hW5
 have HCw:=Hd hcw
 have hr5:Toks w5 ta ts:=fun j hj=>by
  obtain ⟨b,off,rfl,x0,x1,x2⟩:=HR.out j hj
  have hs:=HSep.out (fun e=>by rw [e] at hj;simp at hj) _ rfl
  have hb:¬ OrB (OneB R) (OwnB (.slice ao bs.length cap)) b:=fun e=>e.elim (fun e=>hs.1 e) (fun e=>hs.2 e)
  have hc:∀ (o:Nat) (v:Value),w.cell? ⟨b,o,none⟩=some v→w5.cell? ⟨b,o,none⟩=some v:=fun o v hv=>(World.cell?_of_block (hW5b.2.2.1.block _ (World.block_lt_of_cell? w _ hv) hb)).trans hv
  exact ⟨b,off,rfl,hc _ _ x0,hc _ _ x1,hc _ _ x2⟩
 have hwd:=headW_few hcw HHd.out.2.2.2
 have hput:=putTokens_yes w5 R a5 c5 b5 _ (fun k=>k≠R∧(Value.slice a5 b5.length c5).ownBlock≠some k) a1 c1 lit a2 c2 dist ta tc ts hW5b.1 (by rw [wdN_append];simp only [wdN];omega)
  (hO1.rdG (fun g e=>by have:=hO1.off hW5b.1 g e;exact ⟨fun h=>this (.inl h),fun h=>this (.inr h)⟩)) (hO2.rdG (fun g e=>by have:=hO2.off hW5b.1 g e;exact ⟨fun h=>this (.inl h),fun h=>this (.inr h)⟩))
  (fun k hk=>hk) HHd.out.1 HHd.out.2.1 HHd.out.2.2.1 hr5
  (fun hne a ha=>by
   have hs:=HSep.out hne a ha
   refine ⟨hs.1,fun e=>?_⟩
   rcases hW5b.2.2.2 _ e with h | h
   ·exact hs.2 h
   ·have hj:0 < ts.length:=by cases ts with
     | nil=>exact absurd rfl hne
     | cons _ _=>simp
    obtain ⟨b,off,hta,x0,_⟩:=HR.out 0 hj
    rw [ha] at hta
    cases hta
    have:=World.block_lt_of_cell? w _ x0
    simp only at this h
    omega)
  (by have:=HTl.out;omega) HTs.out
 have HPut:=Hd hput
 have HW5:=Hd hW5b
 clear hput hW5 hW5b hr5 hO1 hO2 hcw HLw HO1b HO2b hwd
 go_wp2_with fail
 refine HPut.out.mono ?_
 rintro e w6 ⟨ws,a6,c6,b6,rfl,hws,hW6⟩
 have HWs:=Hd hws
 have hW7:=HW5.out.app hW6
 rw [List.append_assoc] at hW7
 have HW7:=Hd hW7
 clear hws hW6 hW7 HPut
 go_wp2
 go_ret
 exact ⟨lit,dist,code,told,rs,ws,a6,c6,b6,rfl,HB1.out,HB2.out,HCw.out,HHf.out,HWs.out,HW7.out⟩
theorem cost_le:∀ (A Z:List Int) (a b:Int),0≤a→0≤b→Small a A→Small b Z→0≤costL A Z∧costL A Z≤a*b*A.length
 | [],Z,a,b,ha,hb,_,_=>by cases Z <;> simp [costL]
 | x :: A,[],a,b,ha,hb,_,_=>by
  have:=Int.mul_nonneg (Int.mul_nonneg ha hb) (Int.natCast_nonneg (x :: A).length)
  simp only [costL];exact ⟨Int.le_refl _,this⟩
 | x :: A,z :: Z,a,b,ha,hb,h1,h2=>by
  have h3:=cost_le A Z a b ha hb (fun y hy=>h1 y (List.mem_cons_of_mem _ hy)) (fun y hy=>h2 y (List.mem_cons_of_mem _ hy))
  have hx:=h1 x (List.mem_cons_self ..);have hz:=h2 z (List.mem_cons_self ..)
  have h4:=Int.mul_nonneg hx.1 hz.1
  have h5:x*z≤a*b:=Int.mul_le_mul hx.2 hz.2 hz.1 ha
  rw [costL,List.length_cons,Int.natCast_add,Int.mul_add]
  simp only [Int.natCast_one,Int.mul_one]
  omega
theorem dynBits_any (w:World)(G H:Nat)(ts:List Tk)(hG:RdI w w.heap.size (some ⟨G,0,none⟩) (tally ts).1)(hH:RdI w w.heap.size (some ⟨H,0,none⟩) (tally ts).2)(htl:ts.length≤900000):
  Calls Tryz.prog 93 #[.slice (some ⟨G,0,none⟩) 286 286,.slice (some ⟨H,0,none⟩) 30 30] w fun e w'=>∃ lit dist code told rs,∃ N:Nat,BestL 257 (tally ts).1 lit∧BestL 1 (tally ts).2 dist∧CodeW code told rs (lit++dist)∧HeadF code told rs (lit++dist)∧
   e = .returned (.int .i64 (N:Int))∧(N:Int)=3+(wdN (headW lit dist code told rs):Int)+costL (tally ts).1 lit+costL (tally ts).2 dist∧N≤20000000000∧Kept NoB w w':=by
 have hto:=lensOk_tally ts (by omega)
 have hb:=tally_b2 ts
 have HBs:=Hd (bestLens_yes (some ⟨G,0,none⟩) 286 (tally ts).1 (some ⟨H,0,none⟩) 30 (tally ts).2 _ w hG hH hb.1 hb.2.1 hto.1 hto.2)
 have HG:=Hd hG;have HH:=Hd hH;have HTo:=Hd hto;have HBt:=Hd hb;have HTl:=Hd htl
 clear hG hH hto hb htl
 go_enter Tryz.func93,Tryz.ntmps93
 go_wp2_with fail
 refine HBs.out.mono ?_
 rintro e w1 ⟨a1,c1,a2,c2,lit,dist,rfl,hb1,hb2,ho1,ho2,hk1⟩
 have HB1:=Hd hb1;have HB2:=Hd hb2;have HO1:=Hd ho1;have HO2:=Hd ho2;have HK1:=Hd hk1
 have HHd:=Hd (best_head (by have:=HTl.out;omega) hb1 hb2)
 clear hb1 hb2 ho1 ho2 hk1 HBs
 go_wp2_with fail
 refine (neww_any _).mono ?_
 rintro e w2 ⟨A,rfl,hW,hAf,hk2⟩
 have HW2:=Hd hW;have HAf:Hid (w1.heap.size≤A):=Hd hAf
 have hO1:=HO1.out.kept hk2 (fun _ _ h=>h)
 have hO2:=HO2.out.kept hk2 (fun _ _ h=>h)
 have HLw:=Hd (lensWrite_f a1 c1 lit a2 c2 dist _ A none 0 [] 0 w2 hO1.reads hO2.reads hW HHd.out.2.2.2 (by omega))
 have HO1b:=Hd hO1;have HO2b:=Hd hO2;have HK2:=Hd (HK1.out.trans hk2)
 clear hW hAf hk2 hO1 hO2 HO1 HO2
 go_wp2_with fail
 refine HLw.out.mono ?_
 rintro e w3 ⟨a3,c3,b3,code,told,rs,rfl,hcw,hhf,hW3⟩
 have hO1:=HO1b.out.kept hW3.2.2.1 (fun g e=>HO1b.out.off HW2.out g e)
 have hO2:=HO2b.out.kept hW3.2.2.1 (fun g e=>HO2b.out.off HW2.out g e)
 have hAw:w.heap.size≤A:=Nat.le_trans HK1.out.size HAf.out
 have hkw3:Kept NoB w w3:=HK2.out.transO hW3.2.2.1 (fun i hi e=>by
  rcases e with e | e
  ·unfold OneB at e;omega
  ·unfold OwnB at e;simp [Value.ownBlock] at e)
 have hhw:=headW_few hcw HHd.out.2.2.2
 obtain ⟨hn,hnq⟩:∃ hn,hn=wdN (headW lit dist code told rs):=⟨_,rfl⟩
 have hW3s:Wtr w3 A a3 c3 b3 hn:=by have:=hW3.1;rwa [Nat.zero_add,← hnq] at this
 rw [← hnq] at hhw
 have c1':=cost_le (tally ts).1 lit 1000000 15 (by decide) (by decide) HTo.out.1.small HHd.out.1.2.1
 have c2':=cost_le (tally ts).2 dist 1000000 15 (by decide) (by decide) HTo.out.2.small HHd.out.2.1.2.1
 rw [HBt.out.1] at c1'
 rw [HBt.out.2.1] at c2'
 obtain ⟨k1,hk1⟩:∃ k1:Nat,costL (tally ts).1 lit=(k1:Int):=⟨(costL (tally ts).1 lit).toNat,by omega⟩
 obtain ⟨k2,hk2⟩:∃ k2:Nat,costL (tally ts).2 dist=(k2:Int):=⟨(costL (tally ts).2 dist).toNat,by omega⟩
 rw [hk1] at c1'
 rw [hk2] at c2'
 have HC1:Hid (∀ W,Kept NoB w3 W→Calls Tryz.prog 92 #[.slice (some ⟨G,0,none⟩) 286 286,.slice a1 lit.length c1] W fun e w'=>e = .returned (.int .i64 (k1:Int))∧Kept NoB W w'):=Hd fun W hk=>by
  have h:=cost_calls (some ⟨G,0,none⟩) a1 286 c1 _ _ (tally ts).1 lit W (HG.out.keptNo (hkw3.trans hk)) (hO1.reads.keptNo hk) (fun z hz=>by have:=HTo.out.1.small z hz;omega) (fun z hz=>by have:=HHd.out.1.2.1 z hz;omega) (by rw [HBt.out.1];omega) (by have:=HHd.out.1.1;omega)
  rw [HBt.out.1,hk1] at h
  exact h
 have HC2:Hid (∀ W,Kept NoB w3 W→Calls Tryz.prog 92 #[.slice (some ⟨H,0,none⟩) 30 30,.slice a2 dist.length c2] W fun e w'=>e = .returned (.int .i64 (k2:Int))∧Kept NoB W w'):=Hd fun W hk=>by
  have h:=cost_calls (some ⟨H,0,none⟩) a2 30 c2 _ _ (tally ts).2 dist W (HH.out.keptNo (hkw3.trans hk)) (hO2.reads.keptNo hk) (fun z hz=>by have:=HTo.out.2.small z hz;omega) (fun z hz=>by have:=HHd.out.2.1.2.1 z hz;omega) (by rw [HBt.out.2.1];omega) (by have:=HHd.out.2.1.1;omega)
  rw [HBt.out.2.1,hk2] at h
  exact h
 have HCw:=Hd hcw;have HHf:=Hd hhf;have HW3:=Hd hW3s;have HKw3:=Hd hkw3;have Hk1:=Hd hk1;have Hk2:=Hd hk2;have HNq:=Hd hnq
 clear hcw hhf hW3 hW3s hO1 hO2 hAw hkw3 hk1 hk2 hnq HLw
 go_wp2_with fail
 refine (wlen_any _ _ _ _ _ _ HW3.out).mono ?_
 rintro e w4 ⟨rfl,hk4⟩
 have HK4:=Hd hk4
 clear hk4
 go_wp2_with fail
 refine (HC1.out _ HK4.out).mono ?_
 rintro e w5 ⟨rfl,hk5⟩
 have HK5:=Hd (HK4.out.trans hk5)
 clear hk5
 go_wp2_with fail
 refine (HC2.out _ HK5.out).mono ?_
 rintro e w6 ⟨rfl,hk6⟩
 have HK6:=Hd (HKw3.out.trans (HK5.out.trans hk6))
 clear hk6
 go_wp2
 go_ret
 refine ⟨lit,dist,code,told,rs,3+hn+k1+k2,HB1.out,HB2.out,HCw.out,HHf.out,?_,?_,by omega,HK6.out⟩
 ·congr 2
 ·rw [Hk1.out,Hk2.out,← HNq.out];omega
theorem symLen_low (k:Nat)(w:World)(hk:k < 257):Calls Tryz.prog 121 #[.int .i64 (k:Int)] w fun e w'=>e = .returned (.tuple #[.int .i64 0,.int .i64 0,.bool false])∧w=w':=by
 have h1:(k:Int) < 257:=by omega
 go_enter Tryz.func121,Tryz.ntmps121
 go_wp2
 go_ret3
 exact ⟨rfl,rfl⟩
def exL (k:Nat):Nat:=if k < 257 then 0 else if k < 285 then le4 (k - 257) else 0
def exLs:List Int:=(List.range 286).map fun k=>(exL k:Int)
def exDs:List Int:=(List.range 30).map fun k=>(de k:Int)
theorem exLs_at {k:Nat}(h:k < 286):exLs.getD k 0=(exL k:Int):=by unfold exLs;simp [List.getD,h]
theorem exDs_at {k:Nat}(h:k < 30):exDs.getD k 0=(de k:Int):=by unfold exDs;simp [List.getD,h]
theorem exLs_len:exLs.length=286:=by simp [exLs]
theorem exDs_len:exDs.length=30:=by simp [exDs]
theorem exL_le {k:Nat}:exL k≤5:=by
 unfold exL
 split
 ·omega
 ·split
  ·have:=(lb_top (k - 257) (by omega)).2.2.2;omega
  ·omega
theorem symLen_ex (k:Nat)(w:World)(hk:k < 286):Calls Tryz.prog 121 #[.int .i64 (k:Int)] w fun e w'=>∃ (b:Int) (o:Bool),e = .returned (.tuple #[.int .i64 b,.int .i64 ((exL k:Nat):Int),.bool o])∧w=w':=by
 by_cases h1:k < 257
 ·refine (symLen_low k w h1).mono ?_
  rintro e w' ⟨rfl,rfl⟩
  exact ⟨0,false,by unfold exL;rw [if_pos h1];rfl,rfl⟩
 ·by_cases h2:k < 285
  ·have h:=symLen_any (k - 257) w (by omega)
   rw [show 257+(k - 257)=k by omega] at h
   refine h.mono ?_
   rintro e w' ⟨rfl,rfl⟩
   exact ⟨_,true,by unfold exL;rw [if_neg h1,if_pos h2],rfl⟩
  ·obtain rfl:k=285:=by omega
   refine (symLen_last w).mono ?_
   rintro e w' ⟨rfl,rfl⟩
   exact ⟨258,true,rfl,rfl⟩
theorem extraT_eq {t:Tk}(hw:t.wf)(hok:t.ok=true):litSy t < 286∧(t.l≠0→distSy t < 30)∧(extraT t:Int)=exLs.getD (litSy t) 0+(if t.l=0 then 0 else exDs.getD (distSy t) 0):=by
 rcases tok_shape hw hok with ⟨c,hc,rfl⟩ | ⟨j,u,hj,hu,rfl⟩ | ⟨i,v,j,u,hi,hv,hlv,hj,hu,rfl⟩
 ·have hs:litSy ⟨0,0,(c:Int)⟩=c:=by simp [litSy]
  rw [hs]
  refine ⟨by omega,fun h=>absurd rfl h,?_⟩
  rw [exLs_at (by omega)]
  have he:exL c=0:=by unfold exL;rw [if_pos (by omega)]
  rw [he]
  rfl
 ·obtain ⟨e1,e2,e3,e4,e5⟩:=sy_long hj hu
  have h2:¬ (258:Int)=0:=by decide
  rw [e1,e4]
  refine ⟨by decide,fun _=>hj,?_⟩
  rw [exLs_at (by omega),exDs_at hj]
  unfold extraT
  rw [e3,e4]
  have he:exL 285=0:=by unfold exL;rw [if_neg (by omega),if_neg (by omega)]
  rw [he]
  simp only [if_neg h2]
  omega
 ·have h3:=lb_top i hi
  obtain ⟨e1,e2,e3,e4,e5⟩:=sy_copy hi hv hlv hj hu
  have h2:¬ ((lb i+v:Nat):Int)=0:=by omega
  rw [e1,e4]
  refine ⟨by omega,fun _=>hj,?_⟩
  rw [exLs_at (by omega),exDs_at hj]
  unfold extraT
  rw [e3,e4]
  have he:exL (257+i)=le4 i:=by unfold exL;rw [if_neg (by omega),if_pos (by omega),show 257+i - 257=i by omega]
  rw [he]
  simp only [if_neg h2]
  omega
theorem fold_extra:∀ (ts:List Tk),AllT ts→(∀ t∈ts,t.ok=true)→∀ (p:List Int × List Int) (n:Nat),CntB p n→
  costL (ts.foldl tally1 p).1 exLs+costL (ts.foldl tally1 p).2 exDs=costL p.1 exLs+costL p.2 exDs+(extraS ts:Int)
 | [],_,_,p,n,hp=>by simp [extraS]
 | t :: r,hw,hok,p,n,hp=>by
  have h1:=fold_extra r (fun x hx=>hw x (List.mem_cons_of_mem _ hx)) (fun x hx=>hok x (List.mem_cons_of_mem _ hx)) (tally1 p t) (n+1) (hp.one t)
  have ho:=hok t (List.mem_cons_self ..)
  obtain ⟨h2,h3,h4⟩:=extraT_eq (hw t (List.mem_cons_self ..)) ho
  rw [List.foldl_cons,extraS,h1]
  have h5:costL (tally1 p t).1 exLs=costL p.1 exLs+exLs.getD (litSy t) 0:=by
   unfold tally1;rw [if_pos ho];exact cost_inc _ _ _ (by rw [hp.1];exact h2)
  have h6:costL (tally1 p t).2 exDs=costL p.2 exDs+(if t.l=0 then 0 else exDs.getD (distSy t) 0):=by
   unfold tally1;rw [if_pos ho];simp only
   by_cases hl:t.l=0
   ·rw [if_pos hl,if_pos hl];omega
   ·rw [if_neg hl,if_neg hl];exact cost_inc _ _ _ (by rw [hp.2.1];exact h3 hl)
  rw [h5,h6]
  omega
theorem extra_tally {ts:List Tk}(hw:AllT ts)(hok:allOkB ts=true):costL (tally ts).1 exLs+costL (tally ts).2 exDs=(extraS ts:Int):=by
 have h:=fold_extra ts hw (fun t ht=>allOkB_mem hok t ht) tally0 0 tally0_b
 have h2:costL tally0.1 exLs=0:=by
  have e:tally0.1=incAt (List.replicate 286 0) 256:=by
   unfold tally0 incAt
   simp only
   have e0:(List.replicate 286 (0:Int)).getD 256 0=0:=by
    rw [List.getD,List.getElem?_replicate,if_pos (by omega)];rfl
   rw [e0];rfl
  rw [e,cost_inc _ _ _ (by rw [List.length_replicate];omega),cost_rep0,exLs_at (by omega)]
  unfold exL;rw [if_pos (by omega)];rfl
 have h3:costL tally0.2 exDs=0:=cost_rep0 30 exDs
 rw [h2,h3] at h
 unfold tally
 omega
theorem exLs_small:Small 13 exLs:=fun z hz=>by
 unfold exLs at hz
 obtain ⟨k,hk,rfl⟩:=List.mem_map.1 hz
 have:=exL_le (k:=k)
 omega
theorem exDs_small:Small 13 exDs:=fun z hz=>by
 unfold exDs at hz
 obtain ⟨k,hk,rfl⟩:=List.mem_map.1 hz
 have:=(db_top k (List.mem_range.1 hk)).2.2
 omega
theorem extraBits_any (w:World)(G H:Nat)(xs ys:List Int)(hG:RdI w w.heap.size (some ⟨G,0,none⟩) xs)(hH:RdI w w.heap.size (some ⟨H,0,none⟩) ys)(hx:xs.length=286)(hy:ys.length=30)(sx:Small 1000000 xs)(sy:Small 1000000 ys):
  Calls Tryz.prog 91 #[.slice (some ⟨G,0,none⟩) 286 286,.slice (some ⟨H,0,none⟩) 30 30] w fun e w'=>∃ X:Nat,e = .returned (.int .i64 (X:Int))∧(X:Int)=costL xs exLs+costL ys exDs∧X≤5000000000∧w=w':=by
 have c1:=cost_le xs exLs 1000000 13 (by decide) (by decide) sx exLs_small
 have c2:=cost_le ys exDs 1000000 13 (by decide) (by decide) sy exDs_small
 rw [hx] at c1
 rw [hy] at c2
 obtain ⟨T1,hT1⟩:∃ T:Nat,costL xs exLs=(T:Int):=⟨(costL xs exLs).toNat,by omega⟩
 obtain ⟨T2,hT2⟩:∃ T:Nat,costL ys exDs=(T:Int):=⟨(costL ys exDs).toNat,by omega⟩
 rw [hT1] at c1
 rw [hT2] at c2
 have b1:T1≤3800000000:=by omega
 have b2:T2≤400000000:=by omega
 have HG:=Hd hG;have HH:=Hd hH;have HX:=Hd hx;have HY:=Hd hy;have HSx:=Hd sx;have HSy:=Hd sy;have HT1:=Hd hT1;have HT2:=Hd hT2
 have HD1:Hid (∀ j,0≤costL (xs.drop j) (exLs.drop j)):=Hd fun j=>(cost_le _ _ 1000000 13 (by decide) (by decide) (fun z hz=>sx z (List.mem_of_mem_drop hz)) (fun z hz=>exLs_small z (List.mem_of_mem_drop hz))).1
 have HD2:Hid (∀ j,0≤costL (ys.drop j) (exDs.drop j)):=Hd fun j=>(cost_le _ _ 1000000 13 (by decide) (by decide) (fun z hz=>sy z (List.mem_of_mem_drop hz)) (fun z hz=>exDs_small z (List.mem_of_mem_drop hz))).1
 clear hG hH hx hy sx sy hT1 hT2 c1 c2
 go_enter Tryz.func91,Tryz.ntmps91
 go_wp2_with fail
 go_loopw [18,5,6,7,8,9,10] (fun iv sv _a _b _c _d _e wr=>∃ (j S:Nat),j≤286∧iv = .int .i64 (j:Int)∧sv = .int .i64 (S:Int)∧Hid ((S:Int)+costL (xs.drop j) (exLs.drop j)=(T1:Int))∧w=wr) (fun iv _ _ _ _ _ _ _=>286 - (intOf iv).toNat)
 case atStart=>exact ⟨0,0,by omega,rfl,rfl,Hd (by rw [List.drop_zero,List.drop_zero,HT1.out];omega),rfl⟩
 case round=>
  obtain ⟨j,S,hj,rfl,rfl,HS,rfl⟩:=hrel
  by_cases hlt:(j:Int) < 286
  ·have hj2:j < 286:=by omega
   obtain ⟨g,o,e,_,hc⟩:=HG.out j (by rw [HX.out];exact hj2)
   cases e
   have hst:=cost_step xs exLs j (by rw [HX.out];exact hj2) (by rw [exLs_len];exact hj2)
   have hs:=HS.out
   rw [hst,exLs_at hj2] at hs
   have hz:=HSx.out.getD j (by rw [HX.out];exact hj2)
   obtain ⟨z,hzq⟩:∃ z:Nat,xs.getD j 0=(z:Int):=⟨(xs.getD j 0).toNat,by omega⟩
   rw [hzq] at hs hz hc
   have hx5:=exL_le (k:=j)
   have hd:=HD1.out (j+1)
   have HSy:=Hd (symLen_ex j w hj2)
   obtain ⟨y,hyq⟩:∃ y,y=exL j:=⟨_,rfl⟩
   rw [← hyq] at hs hx5 HSy
   obtain ⟨P,hP⟩:∃ P:Nat,P=z*y:=⟨_,rfl⟩
   have hPi:(z:Int)*(y:Int)=(P:Int):=by rw [hP];exact (Int.natCast_mul z y).symm
   rw [hPi] at hs
   have hPT:S+P≤T1:=by omega
   have hmul:IntKind.i64.wrap ((z:Int)*(y:Int))=(P:Int):=by rw [hPi];exact IntWalk.i64_in _ (by omega)
   have HS2:Hid (((S+P:Nat):Int)+costL (xs.drop (j+1)) (exLs.drop (j+1))=(T1:Int)):=Hd (by omega)
   rw [Nat.zero_add] at hc
   clear hst hs hz hzq hd hyq hP hPi HS hx5
   go_wp2_with fail
   refine HSy.out.mono ?_
   rintro e w5 ⟨bb,oo,rfl,rfl⟩
   go_wp2
   go_roundw
   case rel=>exact ⟨j+1,S+P,by omega,by go_num,by go_num,HS2,trivial⟩
   case measure=>simp [intOf];omega
  ·have hj3:j=286:=by omega
   subst hj3
   have hS1:S=T1:=by
    have hs:=HS.out
    have he:costL (xs.drop 286) (exLs.drop 286)=0:=by rw [List.drop_of_length_le (by rw [HX.out];omega)];simp [costL]
    rw [he] at hs;omega
   subst hS1
   clear HS
   go_wp2_with fail
   go_loopw [37,5,11,12,13,14,15] (fun iv sv _a _b _c _d _e wr=>∃ (j S2:Nat),j≤30∧iv = .int .i64 (j:Int)∧sv = .int .i64 ((S+S2:Nat):Int)∧Hid ((S2:Int)+costL (ys.drop j) (exDs.drop j)=(T2:Int))∧w=wr) (fun iv _ _ _ _ _ _ _=>30 - (intOf iv).toNat)
   case atStart=>exact ⟨0,0,by omega,rfl,rfl,Hd (by rw [List.drop_zero,List.drop_zero,HT2.out];omega),rfl⟩
   case round=>
    obtain ⟨j,S2,hj2',rfl,rfl,HS,rfl⟩:=hrel
    by_cases hlt3:(j:Int) < 30
    ·have hj3:j < 30:=by omega
     obtain ⟨g,o,e,_,hc⟩:=HH.out j (by rw [HY.out];exact hj3)
     cases e
     have hst:=cost_step ys exDs j (by rw [HY.out];exact hj3) (by rw [exDs_len];exact hj3)
     have hs:=HS.out
     rw [hst,exDs_at hj3] at hs
     have hz:=HSy.out.getD j (by rw [HY.out];exact hj3)
     obtain ⟨z,hzq⟩:∃ z:Nat,ys.getD j 0=(z:Int):=⟨(ys.getD j 0).toNat,by omega⟩
     rw [hzq] at hs hz hc
     have hd13:=(db_top j hj3).2.2
     have hd:=HD2.out (j+1)
     have HSd:=Hd (symDist_any j w hj3)
     obtain ⟨y,hyq⟩:∃ y,y=de j:=⟨_,rfl⟩
     rw [← hyq] at hs hd13 HSd
     obtain ⟨P,hP⟩:∃ P:Nat,P=z*y:=⟨_,rfl⟩
     have hPi:(z:Int)*(y:Int)=(P:Int):=by rw [hP];exact (Int.natCast_mul z y).symm
     rw [hPi] at hs
     have hPT:S2+P≤T2:=by omega
     have hmul:IntKind.i64.wrap ((z:Int)*(y:Int))=(P:Int):=by rw [hPi];exact IntWalk.i64_in _ (by omega)
     have HS2:Hid (((S2+P:Nat):Int)+costL (ys.drop (j+1)) (exDs.drop (j+1))=(T2:Int)):=Hd (by omega)
     rw [Nat.zero_add] at hc
     clear hst hs hz hzq hd hyq hP hPi HS hd13
     go_wp2_with fail
     refine HSd.out.mono ?_
     rintro e w5 ⟨rfl,rfl⟩
     go_wp2
     go_roundw
     case rel=>exact ⟨j+1,S2+P,by omega,by go_num,by go_num,HS2,trivial⟩
     case measure=>simp [intOf];omega
    ·have hj3:j=30:=by omega
     subst hj3
     have hS2:S2=T2:=by
      have hs:=HS.out
      have he:costL (ys.drop 30) (exDs.drop 30)=0:=by rw [List.drop_of_length_le (by rw [HY.out];omega)];simp [costL]
      rw [he] at hs;omega
     subst hS2
     clear HS
     go_wp2
     go_ret
     exact ⟨S+S2,rfl,by rw [HT1.out,HT2.out];omega,by omega,rfl⟩
end Go.Proofs.YtfmjfgmbjdhogaaGreatDoor
