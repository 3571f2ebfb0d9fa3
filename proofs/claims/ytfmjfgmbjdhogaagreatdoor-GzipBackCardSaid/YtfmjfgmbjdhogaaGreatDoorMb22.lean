import Derived.Test.YtfmjfgmbjdhogaaGreatDoorMb21
set_option linter.unusedVariables false
set_option linter.unusedSimpArgs false
set_option maxRecDepth 20000
set_option maxHeartbeats 8000000
namespace Go.Proofs.YtfmjfgmbjdhogaaGreatDoor
open Go.RowKit
theorem icln_any (ad:Addr)(cap B n:Nat)(zs:List Int)(w:World)(hr:RdI w B (some ad) zs)(hn:n=zs.length)(hl:zs.length≤100000):
  Calls Tryz.prog 177 #[.slice (some ad) n cap] w fun e w'=>∃ a c,e = .returned (.slice a zs.length c)∧OwnI w' a c zs∧Kept NoB w w'∧(∀ k,(Value.slice a zs.length c).ownBlock=some k→w.heap.size≤k):=by
 have q22:∀ (w:World) (a:Option Addr) (n c n' c':Nat),(binOp .eql 30 (.slice a n c) (.slice none n' c')).run Tryz.prog w = .ok (.bool a.isNone) w:=fun w a n c n' c'=>Lib.run_eql_slice_nil w _ _ a n c n' c' Tryz.underlying30
 have hst:=emp_sa (Kept.refl NoB w) w.heap.size rfl
 have hrn:∀ j u,(zs.map (Value.int .i64))[j]?=some u→(w.alloc (.cells #[] 3)).cell? (ad.add j)=some u:=by
  intro j u hu
  have hj:j < zs.length:=by have:=(List.getElem?_eq_some_iff.1 hu).1;simpa using this
  obtain ⟨g,off,he,_,hc⟩:=hr j hj
  cases he
  have:=((Kept.refl NoB w).alloc (.cells #[] 3)).cell hc
  rw [addr_add,this,← hu]
  simp [List.getD,hj]
 have HSt:=Hd hst;have HRn:=Hd hrn;have HN:=Hd hn
 have hn2:n≤100000:=by omega
 clear hr hst hrn hn hl
 go_enter Tryz.func177,Tryz.ntmps177
 go_wp2_with (at_builtin;refine wpList_intsA rfl _ _ rfl HSt.out rfl ad n cap zs rfl HN.out.symm HRn.out (by omega) ?_)
 intro a6 c6 w6 hs6 hk6
 have HS6:=Hd hs6
 clear hs6 hk6
 go_wp2
 go_ret
 exact ⟨a6,c6,by rw [← HN.out];rfl,by have h:=HS6.out.own;rw [HN.out] at h;exact h,HS6.out.kept,fun k hk=>HS6.out.fresh k (by rw [HN.out];exact hk)⟩
theorem DecG.inH {S:Nat→Prop}{ls:List Int}{D:Nat}{w:World}(h:DecG ls D S w):DecG ls D (fun k=>S k∧k < w.heap.size) w:=by
 obtain ⟨pa,P,pc,h1,h2,h3,h4⟩:=h.all
 exact ⟨⟨h.lt,obj_lt h1.obj⟩,pa,P,pc,h1,fun i hi=>by obtain ⟨g,o,k1,k2,k3⟩:=h2 i hi;exact ⟨g,o,k1,⟨k2,World.block_lt_of_cell? w _ k3⟩,k3⟩,h3,h4⟩
def HeadRP (bs:List Int)(p R:Nat)(ao:Option Addr)(cap:Nat)(w:World)(e:Ending)(w':World):Prop:=
 ∃ (la:Option Addr) (lc:Nat) (lit:List Int) (da:Option Addr) (dc:Nat) (dist:List Int) (f:Int) (q q':Nat),e = .returned (.tuple #[.slice la lit.length lc,.slice da dist.length dc,.int .i64 f])∧
  HeadR bs p lit dist f q∧Rdr w' R ao cap bs q'∧(f=0→q'=q)∧OwnI w' la lc lit∧OwnI w' da dc dist∧Kept (OneB R) w w'
theorem HeadRP.non {bs:List Int}{p R:Nat}{ao:Option Addr}{cap:Nat}{w w':World}{f:Int}{q q':Nat}(h:HeadR bs p [] [] f q)(h0:f≠0)(hr:Rdr w' R ao cap bs q')(hk:Kept (OneB R) w w'):
  HeadRP bs p R ao cap w (.returned (.tuple #[.slice none 0 0,.slice none 0 0,.int .i64 f])) w':=
 ⟨none,0,[],none,0,[],f,q,q',rfl,h,hr,fun h=>absurd h h0,World.ownsRow_nil _ _ _ _,World.ownsRow_nil _ _ _ _,hk⟩
theorem and31_u32 (r:Nat)(h:r < 4294967296):bits .and .u32 (r:Int) 31=((r % 32:Nat):Int):=by
 have h1:=u32_and_nat r 31 h (by decide)
 rw [show r &&& 31=r % 32 from Nat.and_two_pow_sub_one_eq_mod r 5] at h1
 exact h1
theorem lensRead_any (bs:List Int)(p R:Nat)(ao:Option Addr)(cap:Nat)(w:World)(hr:Rdr w R ao cap bs p):
  Calls Tryz.prog 157 #[.pointer (some ⟨R,0,none⟩)] w (HeadRP bs p R ao cap w):=by
 have HR:=Hd hr
 clear hr
 by_cases hsh:8*bs.length < p+14
 ·have htk:=take_no w R ao cap bs p 14 HR.out (.inr (.inr (by omega)))
  have HTk:=Hd htk
  have HH:=Hd (show HeadR bs p [] [] 2 0 by unfold HeadR;rw [if_pos hsh];exact ⟨rfl,rfl,rfl⟩)
  clear htk hsh
  go_enter Tryz.func157,Tryz.ntmps157
  go_wp2_with fail
  with_reducible refine HTk.out.mono ?_
  rintro e w1 ⟨rfl,hk1⟩
  have HR1:=Hd (HR.out.keptNo hk1);have HK1:=Hd hk1
  clear hk1 HTk
  go_wp2
  go_ret3
  exact HeadRP.non HH.out (by decide) HR1.out (HK1.out.mono (fun _ _ h=>h.elim))
 ·have htk:=take_yes w R ao cap bs p 14 HR.out (by decide) (by omega)
  rw [show ((14:Nat):Int)=14 from rfl] at htk
  obtain ⟨c1,c2,c3⟩:=counts14 bs p
  have hx:=bitsAt_lt bs p 14
  obtain ⟨x,hxe⟩:∃ x,x=bitsAt bs p 14:=⟨_,rfl⟩
  rw [← hxe] at htk c1 c2 c3 hx
  have hx2:x < 16384:=hx
  have e1:=and31_u32 x (by omega)
  have e2:=and31_u32 (x / 32) (by omega)
  rw [c1] at e1
  rw [c2] at e2
  obtain ⟨A,hA⟩:∃ A,A=bitsAt bs p 5:=⟨_,rfl⟩
  obtain ⟨Bv,hB⟩:∃ B,B=bitsAt bs (p+5) 5:=⟨_,rfl⟩
  obtain ⟨C,hC⟩:∃ C,C=bitsAt bs (p+10) 4:=⟨_,rfl⟩
  rw [← hA] at e1 c1
  rw [← hB] at e2 c2
  rw [← hC] at c3
  obtain ⟨Y,hY⟩:∃ Y,Y=x / 32:=⟨_,rfl⟩
  rw [← hY] at e2
  have y1:(x:Int) / 32=(Y:Int):=by omega
  have y2:(x:Int) / 1024=(C:Int):=by omega
  have hA32:A < 32:=by omega
  have hB32:Bv < 32:=by omega
  have hC16:C < 16:=by omega
  have HTk:=Hd htk;have HA:=Hd hA;have HB:=Hd hB;have HC:=Hd hC;have HSh:=Hd hsh
  clear htk hA hB hC hxe hx c1 c2 hsh hY c3
  go_enter Tryz.func157,Tryz.ntmps157
  go_wp2_with fail
  with_reducible refine HTk.out.mono ?_
  rintro e w1 ⟨rfl,hr1,hk1⟩
  have HR1:=Hd hr1;have HK1:=Hd hk1
  clear hr1 hk1 HTk
  go_upto_region 6 with fail
  by_cases hbig:29 < A∨29 < Bv
  ·have HH:=Hd (show HeadR bs p [] [] 6 0 by unfold HeadR;rw [if_neg HSh.out,if_pos (by rw [← HA.out,← HB.out];exact hbig)];exact ⟨rfl,rfl,rfl⟩)
   have hg:(286:Int) < (A:Int)+257∨¬ (286:Int) < (A:Int)+257∧(30:Int) < (Bv:Int)+1:=by omega
   clear hbig
   rcases hg with g1 | ⟨g1,g2⟩
   all_goals
    go_wp2
    go_ret3
    exact HeadRP.non HH.out (by decide) HR1.out HK1.out
  ·have g1:¬ (286:Int) < (A:Int)+257:=by omega
   have g2:¬ (30:Int) < (Bv:Int)+1:=by omega
   have HSm:=Hd hbig
   have hA29:A≤29:=by omega
   have hB29:Bv≤29:=by omega
   obtain ⟨n,hn⟩:∃ n,n=C+4:=⟨_,rfl⟩
   have n1:(C:Int)+4=(n:Int):=by omega
   have hcd:=readCode_any bs (p+14) n R ao cap w1 HR1.out (by omega)
   have HCd:=Hd hcd;have HN:=Hd hn
   clear hbig hcd hn
   go_wp2_with fail
   with_reducible refine HCd.out.mono ?_
   rintro e w2 ⟨hk2,⟨q2,hr2,hq2⟩,he⟩
   have HK2:=Hd (HK1.out.trans hk2);have HR2:=Hd hr2
   clear hk2 hr2 HCd
   by_cases hs2:8*bs.length < p+14+3*n
   ·rw [if_pos hs2] at he
    subst he
    have HH:=Hd (show HeadR bs p [] [] 2 0 by
     unfold HeadR
     rw [if_neg HSh.out,if_neg (by rw [← HA.out,← HB.out];exact HSm.out),if_pos (by rw [← HC.out,← HN.out];exact hs2)];exact ⟨rfl,rfl,rfl⟩)
    clear hs2 hq2
    go_wp2
    go_ret3
    exact HeadRP.non HH.out (by decide) HR2.out HK2.out
   ·rw [if_neg hs2] at he
    by_cases hfb:fullB (codeT bs (p+14) n)=false
    ·rw [if_pos hfb] at he
     subst he
     have HH:=Hd (show HeadR bs p [] [] 6 0 by
      unfold HeadR
      rw [if_neg HSh.out,if_neg (by rw [← HA.out,← HB.out];exact HSm.out),if_neg (by rw [← HC.out,← HN.out];exact hs2),if_pos (by rw [← HC.out,← HN.out];exact hfb)];exact ⟨rfl,rfl,rfl⟩)
     clear hs2 hq2 hfb
     go_wp2
     go_ret3
     exact HeadRP.non HH.out (by decide) HR2.out HK2.out
    ·rw [if_neg hfb] at he
     obtain ⟨D,rfl,hdg⟩:=he
     have hq:=hq2 (by omega)
     subst hq
     obtain ⟨N,hN⟩:∃ N,N=(A+257)+(Bv+1):=⟨_,rfl⟩
     have n2:((A:Int)+257)+((Bv:Int)+1)=(N:Int):=by omega
     have HR1w:=Hd (obj_lt HR1.out.1)
     have hrw:=readRow_any (codeT bs (p+14) n) D R N (fun k=>w1.heap.size≤k∧k < w2.heap.size) ao cap bs (p+14+3*n) w2 hdg.inH HR2.out (fun h=>by have:=HR1w.out;omega) (fun k h=>h.2) (small7_15 (codeT_small _ _ _)) (by rw [codeT_len];decide) (by omega)
     have HRw:=Hd hrw
     have HHs:Hid (∀ (row:List Int) (q':Nat) (f:Int) (lit dist:List Int) (e:Int) (q:Nat),RowR (codeT bs (p+14) n) bs N (p+14+3*n) [] q' row f→(if f=0 then if mayB (row.take (A+257)) (row.drop (A+257))=true then lit=row.take (A+257)∧dist=row.drop (A+257)∧e=0∧q=q' else lit=[]∧dist=[]∧e=6 else lit=[]∧dist=[]∧e=f)→HeadR bs p lit dist e q):=Hd (fun row q' f lit dist e q h1 h2=>by
      unfold HeadR
      rw [if_neg HSh.out,if_neg (by rw [← HA.out,← HB.out];exact HSm.out),if_neg (by rw [← HC.out,← HN.out];exact hs2),if_neg (by rw [← HC.out,← HN.out];exact hfb)]
      rw [← HC.out,← HN.out,← HA.out,← HB.out,← hN]
      exact ⟨row,q',f,h1,h2⟩)
     clear hrw hdg hs2 hq2 hfb hN
     go_wp2_with fail
     with_reducible refine HRw.out.mono ?_
     rintro e w3 ⟨a3,c3,row,f,q3,q3',rfl,hrr,hr3,hqq,hown,hk3,hnew⟩
     by_cases hf:f=0
     ·subst hf
      obtain ⟨hlen,hsm,_⟩:=hrr.ok rfl (by simp) (fun z hz=>by simp at hz) (by have:=HR2.out.2.2.2.1;omega)
      have hHs:=HHs.out row q3 0
      have HF:Hid (∀ (lit dist:List Int),lit=row.take (A+257)→dist=row.drop (A+257)→(mayB lit dist=true→HeadR bs p lit dist 0 q3)∧(mayB lit dist=false→HeadR bs p [] [] 6 0)):=Hd (fun lit dist h1 h2=>by
       subst h1 h2
       refine ⟨fun h=>hHs _ _ _ _ hrr ?_,fun h=>hHs _ _ _ _ hrr ?_⟩
       ·rw [if_pos rfl,if_pos h];exact ⟨rfl,rfl,rfl,rfl⟩
       ·rw [if_pos rfl,if_neg (by rw [h];decide)];exact ⟨rfl,rfl,rfl⟩)
      obtain ⟨g3,rfl⟩:=own_some hown (by omega)
      obtain ⟨cb1,cb2⟩:=own_cap2 hown
      have hq3:q3'=q3:=hqq rfl
      subst hq3
      have hrd:=own_readsI hown rfl
      have HK3:=Hd (HK2.out.trans hk3);have HR3:=Hd hr3
      obtain ⟨lit,hlit⟩:∃ lit,lit=row.take (A+257):=⟨_,rfl⟩
      obtain ⟨dist,hdist⟩:∃ dist,dist=row.drop (A+257):=⟨_,rfl⟩
      have l1:lit.length=A+257:=by rw [hlit,List.length_take];omega
      have l2:dist.length=Bv+1:=by rw [hdist,List.length_drop];omega
      have HF2:=Hd (HF.out lit dist hlit hdist)
      have r1:RdI w3 w3.heap.size (some ⟨g3,0,none⟩) lit:=fun i hi=>by
       obtain ⟨g,o,h1,h2,h3⟩:=hrd i (by omega)
       cases h1
       exact ⟨g3,0,rfl,h2,by rw [h3,hlit];simp [List.getD,List.getElem?_take,show i < A+257 by omega]⟩
      have r2:RdI w3 w3.heap.size (some ⟨g3,A+257,none⟩) dist:=fun i hi=>by
       obtain ⟨g,o,h1,h2,h3⟩:=hrd (A+257+i) (by omega)
       cases h1
       refine ⟨g3,_,rfl,h2,?_⟩
       rw [show A+257+i=0+(A+257+i) by omega,h3,hdist]
       simp [List.getD,List.getElem?_drop]
      have s1:Small 15 lit:=fun z hz=>hsm z (by rw [hlit] at hz;exact List.mem_of_mem_take hz)
      have s2:Small 15 dist:=fun z hz=>hsm z (by rw [hdist] at hz;exact List.mem_of_mem_drop hz)
      have HS1:=Hd s1;have HS2:=Hd s2
      obtain ⟨u,hu⟩:∃ u,u=A+257:=⟨_,rfl⟩
      obtain ⟨v,hv⟩:∃ v,v=Bv+1:=⟨_,rfl⟩
      rw [← hu] at l1 r2
      rw [← hv] at l2
      have HL1:=Hd l1;have HL2:=Hd l2
      have HC1:Hid (∀ W,Kept NoB w3 W→Calls Tryz.prog 177 #[.slice (some ⟨g3,0,none⟩) u c3] W fun e w'=>∃ a c,e = .returned (.slice a lit.length c)∧OwnI w' a c lit∧Kept NoB W w'∧(∀ k,(Value.slice a lit.length c).ownBlock=some k→W.heap.size≤k)):=Hd (fun W hW=>icln_any _ c3 _ u lit W (r1.keptNo hW) l1.symm (by omega))
      have HC2:Hid (∀ W,Kept NoB w3 W→Calls Tryz.prog 177 #[.slice (some ⟨g3,u,none⟩) v (c3 - u)] W fun e w'=>∃ a c,e = .returned (.slice a dist.length c)∧OwnI w' a c dist∧Kept NoB W w'∧(∀ k,(Value.slice a dist.length c).ownBlock=some k→W.heap.size≤k)):=Hd (fun W hW=>icln_any _ (c3 - u) _ v dist W (r2.keptNo hW) l2.symm (by omega))
      have u1:(A:Int)+257=(u:Int):=by omega
      have u2:row.length=N:=hlen
      have u3:N=u+v:=by omega
      have u4:¬ c3=u:=by omega
      have u5:u≤c3:=by omega
      have u6:u≤N:=by omega
      have u7:N - u=v:=by omega
      have u8:(u:Int)≤(N:Int):=by omega
      have u9:(0:Int)≤(u:Int):=by omega
      have HU:=Hd (show 257≤u by omega)
      rw [u2] at cb1 ⊢
      rw [u1]
      clear u3 r1 r2 s1 s2 hlit hdist hrd hHs hrr hsm hqq hown hk3 hnew l1 l2 HF HHs hr3 hu hv u1 u2 hlen HRw n2 hA29 hB29 g1 g2 e1 e2
      have hk0:=Kept.refl NoB w3
      go_upto_region 14 with fail
      go_cut [2,3] from 57 to 65 (fun s t wx=>∃ la lc da dc,s = .slice la lit.length lc∧t = .slice da dist.length dc∧Hid (OwnI wx la lc lit)∧Hid (OwnI wx da dc dist)∧Hid (Kept NoB w3 wx))
      case first=>
       go_wp2_with fail
       go_region_held3 (fun W=>Kept NoB w3 W) (first | assumption | exact Kept.drew (by assumption) | exact Kept.trans (by assumption) hkn | exact Kept.trans (by assumption) hkm)
        (first
         | (go_at_call 177;((with_reducible refine (HC1.out _ (by assumption)).mono ?_);rintro e wn ⟨la,lc,rfl,hla,hkn,hfa⟩;have HLa:=Hd hla;clear hla hfa))
         | (go_at_call 177;((with_reducible refine (HC2.out _ (by assumption)).mono ?_);rintro e wm ⟨da,dc,rfl,hda,hkm,hfd⟩;have HDa:=Hd hda;clear hda hfd)))
       go_wp2
       go_meet
       have hk1:Kept NoB w3 wn:=by first | assumption | exact Kept.trans (by assumption) hkn | exact Kept.trans (Kept.drew (by assumption)) hkn
       exact ⟨la,lc,da,dc,rfl,rfl,Hd (hkm.row HLa.out (fun _ _ h=>h)),HDa,Hd (hk1.trans hkm)⟩
      case rest=>
      obtain ⟨la,lc,da,dc,rfl,rfl,HLa,HDa,HKc⟩:=hcut
      have HRc:=Hd (HR3.out.keptNo HKc.out);have HK4:=Hd (HK3.out.trans (HKc.out.mono (fun _ _ h=>h.elim)))
      have hmb:=may_any la lc _ lit da dc _ dist wc HLa.out.reads (fun z hz=>by have:=HS1.out z hz;omega) HDa.out.reads (fun z hz=>by have:=HS2.out z hz;omega) (by have:=HL1.out;have:=HU.out;omega)
      have HMb:=Hd hmb
      clear hmb HC1 HC2
      cases hmy:mayB lit dist with
      | true=>
       have HH:=Hd (HF2.out.1 hmy)
       rw [hmy] at HMb
       clear hmy
       go_wp2_with fail
       with_reducible refine HMb.out.mono ?_
       rintro e w5 ⟨rfl,hk5⟩
       have HR5:=Hd (HRc.out.keptNo hk5);have HK5:=Hd (HK4.out.trans (hk5.mono (fun _ _ h=>h.elim)));have HLa5:=Hd (hk5.row HLa.out (fun _ _ h=>h));have HDa5:=Hd (hk5.row HDa.out (fun _ _ h=>h))
       clear hk5 HMb
       go_wp2
       go_ret3
       exact ⟨la,lc,lit,da,dc,dist,0,_,_,rfl,HH.out,HR5.out,fun _=>rfl,HLa5.out,HDa5.out,HK5.out⟩
      | false=>
       have HH:=Hd (HF2.out.2 hmy)
       rw [hmy] at HMb
       clear hmy
       go_wp2_with fail
       with_reducible refine HMb.out.mono ?_
       rintro e w5 ⟨rfl,hk5⟩
       have HR5:=Hd (HRc.out.keptNo hk5);have HK5:=Hd (HK4.out.trans (hk5.mono (fun _ _ h=>h.elim)))
       clear hk5 HMb
       go_wp2
       go_ret3
       exact HeadRP.non HH.out (by decide) HR5.out HK5.out
     ·have hl0:=hrr.err hf
      subst hl0
      have HH:=Hd (HHs.out [] q3 f [] [] f 0 hrr (by rw [if_neg hf];exact ⟨rfl,rfl,rfl⟩))
      have hf2:(f == 0)=false:=by simp [hf]
      have HFn:=Hd hf;have HR3:=Hd hr3;have HK3:=Hd (HK2.out.trans hk3)
      clear hrr hr3 hqq hown hk3 hnew HHs hf HRw
      go_wp2
      go_ret3
      exact HeadRP.non HH.out HFn.out HR3.out HK3.out
def LoB (lo:Nat):Nat→Prop:=fun k=>lo≤k
structure InfS (lo:Nat)(w:World)(D:Nat)(v:IV)(m:Md)(out bs:List Int)(S:Nat→Prop)(R:Nat)(ao:Option Addr)(cap p:Nat):Prop where
 obj:InfO w D v
 low:lo≤D
 lowR:lo≤R
 sink:RowU w lo v.sk out
 rest:RowU w lo v.rs bs
 win:∃ wnd,RowU w lo v.wn wnd∧Sfx wnd out∧wnd.length < 98304
 sep:∀ k,v.sk.ownBlock=some k→v.wn.ownBlock≠some k
 rd:Rdr w R ao cap bs p
 s:∀ k,S k→lo≤k∧k < w.heap.size∧k≠D∧k≠R∧v.sk.ownBlock≠some k∧v.wn.ownBlock≠some k
 sR:∀ k,v.rs.ownBlock=some k→S k
 sA:∀ a,ao=some a→S a.block
 nx:v.nx=nxOf m
 er:v.er=0
 fit:out.length≤v.most
 big:v.most≤9223372036854775807
 all:AllB out
 mode:ModeOk w S v m
 fix:FixOk w S v
theorem InfS.DR {lo:Nat}{w:World}{D:Nat}{v:IV}{m:Md}{out bs:List Int}{S:Nat→Prop}{R:Nat}{ao:Option Addr}{cap p:Nat}(h:InfS lo w D v m out bs S R ao cap p):D≠R:=by
 intro e
 have h1:=h.obj
 have h2:=h.rd.1
 unfold InfO at h1
 rw [e,h2] at h1
 simp at h1
theorem InfS.skD {lo:Nat}{w:World}{D:Nat}{v:IV}{m:Md}{out bs:List Int}{S:Nat→Prop}{R:Nat}{ao:Option Addr}{cap p:Nat}(h:InfS lo w D v m out bs S R ao cap p):∀ k,v.sk.ownBlock=some k→k≠D∧k≠R:=
 fun k hk=>⟨row_ne h.sink.own h.obj (by decide) k hk,row_ne h.sink.own h.rd.1 (by decide) k hk⟩
theorem InfS.wnD {lo:Nat}{w:World}{D:Nat}{v:IV}{m:Md}{out bs:List Int}{S:Nat→Prop}{R:Nat}{ao:Option Addr}{cap p:Nat}(h:InfS lo w D v m out bs S R ao cap p):∀ k,v.wn.ownBlock=some k→k≠D∧k≠R:=by
 intro k hk
 obtain ⟨wnd,hw,_⟩:=h.win
 exact ⟨row_ne hw.own h.obj (by decide) k hk,row_ne hw.own h.rd.1 (by decide) k hk⟩
theorem InfS.aoD {lo:Nat}{w:World}{D:Nat}{v:IV}{m:Md}{out bs:List Int}{S:Nat→Prop}{R:Nat}{ao:Option Addr}{cap p:Nat}(h:InfS lo w D v m out bs S R ao cap p):∀ k,(Value.slice ao bs.length cap).ownBlock=some k→S k:=by
 intro k hk
 cases ao with
 | none=>simp [Value.ownBlock] at hk
 | some a=>
  have:=h.sA a rfl
  obtain ⟨b,o,sp⟩:=a
  simp [Value.ownBlock] at hk
  rw [← hk];exact this
theorem ModeOk.kept {S T:Nat→Prop}{w w':World}{v v':IV}{m:Md}(h:ModeOk w S v m)(hk:Kept T w w')(hs:∀ k,S k→¬ T k)(h1:v'.lf=v.lf)(h2:v'.li=v.li)(h3:v'.di=v.di):ModeOk w' S v' m:=by
 cases m with
 | bytes n=>obtain ⟨a,b⟩:=h;exact ⟨h1.trans a,b⟩
 | sym lit dist=>
  obtain ⟨a,b,Dl,Dd,c1,c2,d1,d2⟩:=h
  exact ⟨a,b,Dl,Dd,h2.trans c1,h3.trans c2,d1.kept hk hs,d2.kept hk hs⟩
 | _=>trivial
theorem FixOk.kept {S T:Nat→Prop}{w w':World}{v v':IV}(h:FixOk w S v)(hk:Kept T w w')(hs:∀ k,S k→¬ T k)(h1:v'.fl=v.fl)(h2:v'.fd=v.fd):FixOk w' S v':=by
 rcases h with h | ⟨a,b,c1,c2,d1,d2⟩
 ·exact .inl (h1.trans h)
 ·exact .inr ⟨a,b,h1.trans c1,h2.trans c2,d1.kept hk hs,d2.kept hk hs⟩
theorem ModeOk.more {S S':Nat→Prop}{w:World}{v:IV}{m:Md}(h:ModeOk w S v m)(hs:∀ k,S k→S' k):ModeOk w S' v m:=by
 cases m with
 | bytes n=>exact h
 | sym lit dist=>
  obtain ⟨a,b,Dl,Dd,c1,c2,d1,d2⟩:=h
  exact ⟨a,b,Dl,Dd,c1,c2,d1.mono hs,d2.mono hs⟩
 | _=>trivial
theorem FixOk.more {S S':Nat→Prop}{w:World}{v:IV}(h:FixOk w S v)(hs:∀ k,S k→S' k):FixOk w S' v:=by
 rcases h with h | ⟨a,b,c1,c2,d1,d2⟩
 ·exact .inl h
 ·exact .inr ⟨a,b,c1,c2,d1.mono hs,d2.mono hs⟩
theorem InfS.step {lo:Nat}{w w':World}{D:Nat}{v v':IV}{m m':Md}{out bs:List Int}{S S' T:Nat→Prop}{R:Nat}{ao:Option Addr}{cap p q:Nat}(h:InfS lo w D v m out bs S R ao cap p)
  (hk:Kept T w w') (hT:∀ k,T k→k=D∨k=R) (hlo:lo≤w.heap.size) (ho:InfO w' D v') (hr:Rdr w' R ao cap bs q) (e1:v'.sk=v.sk) (e2:v'.wn=v.wn) (e3:v'.rs=v.rs) (e4:v'.most=v.most) (hnx:v'.nx=nxOf m') (her:v'.er=0)
  (hS:∀ k,S k→S' k) (hS':∀ k,S' k→S k∨(w.heap.size≤k∧k < w'.heap.size)) (hm:ModeOk w' S' v' m') (hf:FixOk w' S' v'):InfS lo w' D v' m' out bs S' R ao cap q:=by
 have hsk:=h.skD
 have hwn:=h.wnD
 have hrs:∀ k,v.rs.ownBlock=some k→k≠D∧k≠R:=fun k hk=>⟨(h.s k (h.sR k hk)).2.2.1,(h.s k (h.sR k hk)).2.2.2.1⟩
 obtain ⟨wnd,hw,hx,hz⟩:=h.win
 refine ⟨ho,h.low,h.lowR,?_,?_,⟨wnd,?_,hx,hz⟩,?_,hr,?_,?_,?_,hnx,her,by rw [e4];exact h.fit,by rw [e4];exact h.big,h.all,hm,hf⟩
 ·rw [e1];exact h.sink.kept hk (fun k hk1 ht=>by have:=hsk k hk1;have:=hT k ht;omega)
 ·rw [e3];exact h.rest.kept hk (fun k hk1 ht=>by have:=hrs k hk1;have:=hT k ht;omega)
 ·rw [e2];exact hw.kept hk (fun k hk1 ht=>by have:=hwn k hk1;have:=hT k ht;omega)
 ·rw [e1,e2];exact h.sep
 ·intro k hk1
  rcases hS' k hk1 with hs | ⟨h1,h2⟩
  ·obtain ⟨a,b,c⟩:=h.s k hs
   exact ⟨a,Nat.lt_of_lt_of_le b hk.size,by rw [e1,e2];exact c⟩
  ·have hD:=obj_lt h.obj
   have hR:=obj_lt h.rd.1
   refine ⟨by omega,h2,by omega,by omega,?_,?_⟩
   ·rw [e1];intro e;have:=own_lt h.sink.own k e;omega
   ·rw [e2];intro e;have:=own_lt hw.own k e;omega
 ·rw [e3];exact fun k hk=>hS k (h.sR k hk)
 ·exact fun a ha=>hS _ (h.sA a ha)
def ItemW (lo:Nat)(w:World)(D:Nat)(v:IV)(m:Md)(out bs:List Int)(R:Nat)(ao:Option Addr)(cap p:Nat)(er:Int)(w':World):Prop:=
 Kept (LoB lo) w w'∧∃ v' m' o' S' p',InfS lo w' D v' m' o' bs S' R ao cap p'∧v'.rs=v.rs∧v'.fr=v.fr∧v'.sp=v.sp∧(v'.most=v.most∧v'.us=v.us∧v'.at_=v.at_)∧
  (if er=0 then Steps bs v.most p m v.la out p' m' v'.la o'∧p < p' else (∃ p1 m1 l1 o1,ItemR bs v.most p m v.la out er p1 m1 l1 o1)∧o'=out∧m'=m∧(er=2→v'.la=v.la))
theorem InfS.moved {lo:Nat}{w w':World}{D:Nat}{v:IV}{m:Md}{out bs:List Int}{S T:Nat→Prop}{R:Nat}{ao:Option Addr}{cap p q:Nat}(h:InfS lo w D v m out bs S R ao cap p)(hlo:lo≤w.heap.size)(hk:Kept T w w')(hT:∀ k,T k→k=R)(hr:Rdr w' R ao cap bs q):InfS lo w' D v m out bs S R ao cap q:=by
 have hs:∀ k,S k→¬ T k:=fun k hs ht=>(h.s k hs).2.2.2.1 (hT k ht)
 exact h.step hk (fun k hk => .inr (hT k hk)) hlo (h.obj.kept hk (fun e=>h.DR (hT _ e))) hr rfl rfl rfl rfl h.nx h.er (fun _ h=>h) (fun _ h => .inl h) (h.mode.kept hk hs rfl rfl rfl) (h.fix.kept hk hs rfl rfl)
theorem InfS.fails {lo:Nat}{w w':World}{D:Nat}{v:IV}{m:Md}{out bs:List Int}{S T:Nat→Prop}{R:Nat}{ao:Option Addr}{cap p q:Nat}(h:InfS lo w D v m out bs S R ao cap p)(hlo:lo≤w.heap.size)(hk:Kept T w w')(hT:∀ k,T k→k=R)(hr:Rdr w' R ao cap bs q)(er:Int)(he:er≠0)
  (hi:∃ p1 m1 l1 o1,ItemR bs v.most p m v.la out er p1 m1 l1 o1):ItemW lo w D v m out bs R ao cap p er w':=
 ⟨hk.mono (fun k _ ht=>by have:=hT k ht;subst this;exact h.lowR),v,m,out,S,q,h.moved hlo hk hT hr,rfl,rfl,rfl,⟨rfl,rfl,rfl⟩,by rw [if_neg he];exact ⟨hi,rfl,rfl,fun _=>rfl⟩⟩
theorem InfS.put {lo:Nat}{w w1 w2:World}{D:Nat}{v:IV}{m:Md}{out bs x wnd':List Int}{S:Nat→Prop}{R:Nat}{ao:Option Addr}{cap p g:Nat}{sk' wn':Value}(h:InfS lo w D v m out bs S R ao cap p)(hlo:lo≤w.heap.size)
  (hk1:Kept (OwnB v.wn) w w1) (hg:v.wn.ownBlock=some g∨w.heap.size≤g) (ho:InfO w2 D { v with sk:=sk',wn:=wn' }) (hs:RowU w2 lo sk' (out++x)) (hw:RowU w2 lo wn' wnd') (hwg:wn'.ownBlock=some g) (hx:Sfx wnd' (out++x)) (hl:wnd'.length < 98304)
  (hsep:sk'.ownBlock≠some g) (hk2:Kept (fun j=>j=D∨j=g∨v.sk.ownBlock=some j) w1 w2) (hf:∀ j,sk'.ownBlock=some j→v.sk.ownBlock=some j∨w1.heap.size≤j) (hfit:(out++x).length≤v.most) (hall:AllB x):
  InfS lo w2 D { v with sk:=sk',wn:=wn' } m (out++x) bs S R ao cap p∧Kept (LoB lo) w w2:=by
 have hD:=obj_lt h.obj
 have hR:=obj_lt h.rd.1
 obtain ⟨wnd,hw0,_,_⟩:=h.win
 have hskl:=own_lt h.sink.own
 have hwnl:=own_lt hw0.own
 have hsz:=hk1.size
 have hS1:∀ k,S k→¬ OwnB v.wn k:=fun k hk e=>(h.s k hk).2.2.2.2.2 e
 have hS2:∀ k,S k→¬ (k=D∨k=g∨v.sk.ownBlock=some k):=fun k hk e=>by
  obtain ⟨a1,a2,a3,a4,a5,a6⟩:=h.s k hk
  rcases e with e | e | e
  ·exact a3 e
  ·rcases hg with hg | hg
   ·exact a6 (by rw [e];exact hg)
   ·omega
  ·exact a5 e
 have hk:Kept (fun j=>OwnB v.wn j∨j=D∨j=g∨v.sk.ownBlock=some j) w w2:=(hk1.mono (fun _ _ e => .inl e)).trans (hk2.mono (fun _ _ e => .inr e))
 have hSn:∀ k,S k→¬ (OwnB v.wn k∨k=D∨k=g∨v.sk.ownBlock=some k):=fun k hk e=>e.elim (hS1 k hk) (hS2 k hk)
 have hRn:¬ (OwnB v.wn R∨R=D∨R=g∨v.sk.ownBlock=some R):=fun e=>by
  rcases e with e | e | e | e
  ·exact (h.wnD R e).2 rfl
  ·exact h.DR e.symm
  ·rcases hg with hg | hg
   ·exact (h.wnD g hg).2 e.symm
   ·omega
  ·exact (h.skD R e).2 rfl
 refine ⟨⟨ho,h.low,h.lowR,hs,?_,⟨wnd',hw,hx,hl⟩,?_,?_,?_,h.sR,h.sA,h.nx,h.er,hfit,h.big,?_,h.mode.kept hk hSn rfl rfl rfl,h.fix.kept hk hSn rfl rfl⟩,hk.mono ?_⟩
 ·exact h.rest.kept hk (fun k hk1=>hSn k (h.sR k hk1))
 ·intro k hk1 hk2
  rw [hwg] at hk2
  exact hsep (by rw [hk2];exact hk1)
 ·exact h.rd.kept hk hRn (fun k hk1=>hSn k (h.aoD k hk1))
 ·intro k hk1
  obtain ⟨a1,a2,a3,a4,a5,a6⟩:=h.s k hk1
  have hz:=hk.size
  refine ⟨a1,by omega,a3,a4,?_,?_⟩
  ·intro e
   rcases hf k e with e | e
   ·exact a5 e
   ·omega
  ·intro e
   rw [hwg] at e
   rcases hg with hg | hg
   ·exact a6 (by rw [hg];exact e)
   ·have:g=k:=Option.some.inj e
    omega
 ·intro b hb
  rcases List.mem_append.1 hb with hb | hb
  ·exact h.all b hb
  ·exact hall b hb
 ·intro k hkl e
  rcases e with e | e | e | e
  ·exact hw0.fresh k e
  ·exact e ▸ h.low
  ·rcases hg with hg | hg
   ·exact e ▸ hw0.fresh g hg
   ·omega
  ·exact h.sink.fresh k e
theorem Sfx.app {wnd out x:List Int}(h:Sfx wnd out):Sfx (wnd++x) (out++x):=by
 obtain ⟨⟨pre,h1⟩,h2⟩:=h
 refine ⟨⟨pre,by rw [h1,List.append_assoc]⟩,?_⟩
 rcases h2 with h2 | h2
 ·exact .inl (by rw [h2])
 ·exact .inr (by rw [List.length_append];omega)
theorem Sfx.cut {wnd out:List Int}(h:Sfx wnd out)(k:Nat)(hk:k+32768≤wnd.length):Sfx (wnd.drop k) out:=by
 obtain ⟨⟨pre,h1⟩,h2⟩:=h
 exact ⟨⟨pre++wnd.take k,by rw [h1,List.append_assoc,List.take_append_drop]⟩,.inr (by rw [List.length_drop];omega)⟩
theorem TwoZ.A {w0 w:World}{G n H m:Nat}{L M:List Int}(h:TwoZ w0 w G n H m L M)(hl:L.length=n):RdI w w.heap.size (some ⟨G,0,none⟩) L:=h.a.reads hl
theorem TwoZ.B {w0 w:World}{G n H m:Nat}{L M:List Int}(h:TwoZ w0 w G n H m L M)(hl:M.length=m):RdI w w.heap.size (some ⟨H,0,none⟩) M:=h.b.reads hl
theorem TwoZ.BG {w0 w:World}{G n H m:Nat}{L M:List Int}(h:TwoZ w0 w G n H m L M)(hl:M.length=m):RdG w (fun k=>k=H) (some ⟨H,0,none⟩) M:=fun i hi=>by
 obtain ⟨g,o,e,_,hc⟩:=h.B hl i hi
 cases e
 exact ⟨H,0,rfl,rfl,hc⟩
theorem startFixed_any2 {w:World}{D:Nat}{v:IV}(h:InfO w D v)(a b:Addr)(hfl:v.fl=some a)(hfd:v.fd=some b):
  Calls Tryz.prog 151 #[.pointer (some ⟨D,0,none⟩)] w fun e w'=>e = .returned (.tuple #[])∧InfO w' D { v with li:=some a,di:=some b,nx:=4 }∧Kept (OneB D) w w':=by
 have ho:=h
 have c9:=ho.c9
 have c10:=ho.c10
 have c6:=ho.c6
 have c11:=ho.c11
 have c12:=ho.c12
 rw [hfl] at c11
 rw [hfd] at c12
 have f6:=ho.free 6
 have f9:=ho.free 9
 have f10:=ho.free 10
 have HO:=Hd ho
 clear ho h hfl hfd
 go_enter Tryz.func151,Tryz.ntmps151
 go_upto_region 4 with fail
 go_region
 all_goals go_wp2
 refine bodyPost_end (results_none rfl _ _ _) rfl ?_
 exact ⟨rfl,((HO.out.setLi (some a)).setDi (some b)).setNx 4,Kept.drew (Kept.setCell (p:=⟨D,6,none⟩) (Kept.setCell (p:=⟨D,10,none⟩) (Kept.setCell (p:=⟨D,9,none⟩) (Kept.refl (OneB D) w) (.inl rfl) _) (.inl rfl) _) (.inl rfl) _)⟩
theorem startFixed_none {w:World}{D:Nat}{v:IV}(h:InfO w D v)(hfl:v.fl=none):
  Calls Tryz.prog 151 #[.pointer (some ⟨D,0,none⟩)] w fun e w'=>e = .returned (.tuple #[])∧∃ Fl Fd,InfO w' D { v with li:=some ⟨Fl,0,none⟩,di:=some ⟨Fd,0,none⟩,fl:=some ⟨Fl,0,none⟩,fd:=some ⟨Fd,0,none⟩,nx:=4 }∧Kept (OneB D) w w'∧
   DecG fixL Fl (fun k=>w.heap.size≤k∧k < w'.heap.size) w'∧DecG fixD Fd (fun k=>w.heap.size≤k∧k < w'.heap.size) w':=by
 have c11:=h.c11
 rw [hfl] at c11
 have hDl:=obj_lt h
 have HO:=Hd h
 have HF:=Hd (fixed_any w)
 have HNL:=Hd (fun (W:World) (G B:Nat) (hr:RdI W B (some ⟨G,0,none⟩) fixL)=>new_calls2 (some ⟨G,0,none⟩) 288 B fixL W hr fixL_ok.2.1 fixL_ok.1 fixL_ok.2.2)
 have HND:=Hd (fun (W:World) (G B:Nat) (hr:RdI W B (some ⟨G,0,none⟩) fixD)=>new_calls2 (some ⟨G,0,none⟩) 32 B fixD W hr fixD_ok.2.1 fixD_ok.1 fixD_ok.2.2)
 rw [fixL_len] at HNL
 rw [fixD_len] at HND
 clear h hfl
 go_enter Tryz.func151,Tryz.ntmps151
 go_wp2_with fail
 refine HF.out.mono ?_
 rintro e w1 ⟨G,H,rfl,hT⟩
 have HT:=Hd hT
 clear hT HF
 go_wp2_with fail
 refine (HNL.out w1 G w1.heap.size (HT.out.A fixL_len)).mono ?_
 rintro e w2 ⟨Fl,rfl,hd2,hk2⟩
 have ho2:=(HO.out.kept HT.out.k (fun e=>e)).kept hk2 (fun e=>e)
 have c11':=ho2.c11
 have f11:=ho2.free 11
 have HO2:=Hd (ho2.setFl (some ⟨Fl,0,none⟩))
 have HD2:=Hd hd2;have HK2:=Hd (HT.out.k.trans hk2)
 have HRD:=Hd ((HT.out.BG fixD_len).kept hk2 (fun _ _ e=>e))
 clear ho2 hd2 hk2 c11
 go_upto_region 3 with fail
 obtain ⟨w3,hw3⟩:∃ w3,w3=w2.setCell ⟨D,11,none⟩ (.pointer (some ⟨Fl,0,none⟩)):=⟨_,rfl⟩
 rw [← hw3] at HO2 ⊢
 have hk3:Kept (OneB D) w2 w3:=by rw [hw3];exact Kept.setCell (S:=OneB D) (p:=⟨D,11,none⟩) (Kept.refl _ w2) (.inl rfl) _
 have HK3:=Hd hk3
 have hHD:H≠D:=by have:=HT.out.h;omega
 have HRD3:=Hd ((HRD.out.kept hk3 (fun k hk e=>hHD (hk.symm.trans e))).room)
 clear hw3 hk3 c11' f11
 go_wp2_with fail
 refine (HND.out w3 H _ HRD3.out).mono ?_
 rintro e w4 ⟨Fd,rfl,hd4,hk4⟩
 have ho4:=HO2.out.kept hk4 (fun e=>e)
 have c12':=ho4.c12
 have f12:=ho4.free 12
 have ho5:=ho4.setFd (some ⟨Fd,0,none⟩)
 have HO5:=Hd ho5
 have HD4:=Hd hd4;have HK4:=Hd hk4
 clear ho4 hd4 hk4
 go_upto_region 4 with fail
 obtain ⟨w5,hw5⟩:∃ w5,w5=w4.setCell ⟨D,12,none⟩ (.pointer (some ⟨Fd,0,none⟩)):=⟨_,rfl⟩
 rw [← hw5] at HO5 ho5 ⊢
 have HK5:Hid (Kept (OneB D) w4 w5):=by rw [hw5];exact Kept.setCell (S:=OneB D) (p:=⟨D,12,none⟩) (Kept.refl _ w4) (.inl rfl) _
 have e11:=ho5.c11
 have e12:=ho5.c12
 have e9:=ho5.c9
 have e10:=ho5.c10
 have e6:=ho5.c6
 have g6:=ho5.free 6
 have g9:=ho5.free 9
 have g10:=ho5.free 10
 simp only at e11 e12 e9 e10 e6
 clear hw5 ho5 c12' f12
 go_region
 all_goals go_wp2
 refine bodyPost_end (results_none rfl _ _ _) rfl ?_
 have hk6:Kept (OneB D) w5 ((((w5.setCell ⟨D,9,none⟩ (.pointer (some ⟨Fl,0,none⟩))).setCell ⟨D,10,none⟩ (.pointer (some ⟨Fd,0,none⟩))).setCell ⟨D,6,none⟩ (.int .i64 4)).drew):=Kept.drew (Kept.setCell (p:=⟨D,6,none⟩) (Kept.setCell (p:=⟨D,10,none⟩) (Kept.setCell (p:=⟨D,9,none⟩) (Kept.refl (OneB D) w5) (.inl rfl) _) (.inl rfl) _) (.inl rfl) _)
 have hF:∀ {S:Nat→Prop} {a b:World},Kept NoB a b→Kept S a b:=fun h=>h.mono (fun _ _ e=>e.elim)
 have k45:=(HK5.out.trans hk6)
 have k25:=(HK3.out.trans (hF HK4.out)).trans k45
 have k05:=(hF HK2.out).trans k25
 have z1:=HT.out.k.size
 have z2:=HK2.out.size
 have z3:=HK3.out.size
 have z4:=HK4.out.size
 have z5:=k45.size
 refine ⟨rfl,Fl,Fd,((HO5.out.setLi _).setDi _).setNx 4,k05,?_,?_⟩
 ·refine ((HD2.out.toG.inH).kept k25 (fun k hk e=>?_)).mono (fun k hk=>⟨by omega,?_⟩)
  ·unfold OneB at e;omega
  ·have:=k25.size;omega
 ·refine ((HD4.out.toG.inH).kept k45 (fun k hk e=>?_)).mono (fun k hk=>⟨by omega,by omega⟩)
  unfold OneB at e;omega
theorem InfS.turn {lo:Nat}{w w1 w2:World}{D:Nat}{v v':IV}{m m':Md}{out bs:List Int}{S S':Nat→Prop}{R:Nat}{ao:Option Addr}{cap p q:Nat}(h:InfS lo w D v m out bs S R ao cap p)(hlo:lo≤w.heap.size)
  (hk1:Kept (OneB R) w w1) (hr:Rdr w1 R ao cap bs q) (hk2:Kept (OneB D) w1 w2) (ho:InfO w2 D v') (e1:v'.sk=v.sk) (e2:v'.wn=v.wn) (e3:v'.rs=v.rs) (e4:v'.most=v.most) (hnx:v'.nx=nxOf m') (her:v'.er=0)
  (hS:∀ k,S k→S' k) (hS':∀ k,S' k→S k∨(w.heap.size≤k∧k < w2.heap.size)) (hm:ModeOk w2 S' v' m') (hf:FixOk w2 S' v'):InfS lo w2 D v' m' out bs S' R ao cap q∧Kept (LoB lo) w w2:=by
 have hk:Kept (fun k=>k=D∨k=R) w w2:=(hk1.mono (fun _ _ e => .inr e)).trans (hk2.mono (fun _ _ e => .inl e))
 refine ⟨h.step hk (fun _ e=>e) hlo ho (hr.kept hk2 (fun e=>h.DR e.symm) (fun k hk3 e=>?_)) e1 e2 e3 e4 hnx her hS hS' hm hf,hk.mono (fun k _ e=>?_)⟩
 ·exact (h.s k (h.aoD k hk3)).2.2.1 e
 ·rcases e with e | e
  ·exact e ▸ h.low
  ·exact e ▸ h.lowR
theorem InfS.fixAt {lo:Nat}{w w1 w2:World}{D:Nat}{v v':IV}{m:Md}{out bs:List Int}{S:Nat→Prop}{R:Nat}{ao:Option Addr}{cap p:Nat}(h:InfS lo w D v m out bs S R ao cap p)(hk1:Kept (OneB R) w w1)(hk2:Kept (OneB D) w1 w2)(e1:v'.fl=v.fl)(e2:v'.fd=v.fd):FixOk w2 S v':=
 h.fix.kept ((hk1.mono (fun _ _ e => .inr e)).trans (hk2.mono (T:=fun k=>k=D∨k=R) (fun _ _ e => .inl e))) (fun k hs e=>e.elim (h.s k hs).2.2.1 (h.s k hs).2.2.2.1) e1 e2
theorem ItemR.block_at {bs:List Int}{most p:Nat}{l l':Bool}{out:List Int}{k b:Nat}(hp:p+3≤8*bs.length)(hx:bitsAt bs p 3=2*k+b)(hb:b < 2)(hl:l'=((b:Int) == 1)):
  ItemR bs most p .block l out (if k < 3 then 0 else 6) (p+3) (if k=0 then .stored else if k=1 then .sym fixL fixD else .head) l' out:=by
 have hl2:l'=((2*k+b) % 2 == 1):=by
  rw [hl]
  have:b=0∨b=1:=by omega
  rcases this with rfl | rfl <;> simp <;> omega
 unfold ItemR
 dsimp only
 rw [hx,if_neg (by omega),show (2*k+b) / 2=k by omega]
 by_cases k0:k=0
 ·rw [if_pos k0,if_pos (by omega),if_pos k0];exact ⟨rfl,rfl,rfl,hl2,rfl⟩
 ·rw [if_neg k0,if_neg k0]
  by_cases k1:k=1
  ·rw [if_pos k1,if_pos (by omega),if_pos k1];exact ⟨rfl,rfl,rfl,hl2,rfl⟩
  ·rw [if_neg k1,if_neg k1]
   by_cases k2:k=2
   ·rw [if_pos k2,if_pos (by omega)];exact ⟨rfl,rfl,rfl,hl2,rfl⟩
   ·rw [if_neg k2,if_neg (by omega)]
theorem readBlock_any {lo:Nat}{w:World}{D:Nat}{v:IV}{out bs:List Int}{S:Nat→Prop}{R:Nat}{ao:Option Addr}{cap p:Nat}(h:InfS lo w D v .block out bs S R ao cap p)(hlo:lo≤w.heap.size):
  Calls Tryz.prog 127 #[.pointer (some ⟨D,0,none⟩),.pointer (some ⟨R,0,none⟩)] w fun e w'=>∃ er,e = .returned (.int .i64 er)∧ItemW lo w D v .block out bs R ao cap p er w':=by
 by_cases hsh:8*bs.length < p+3
 ·have HT:=Hd (take_no w R ao cap bs p 3 h.rd (.inr (.inr (by omega))))
  have H:=Hd h;have HSh:=Hd hsh
  clear h hsh
  go_enter Tryz.func127,Tryz.ntmps127
  go_wp2_with fail
  refine HT.out.mono ?_
  rintro e w1 ⟨rfl,hk⟩
  have HK:=Hd hk
  clear hk HT
  go_wp2
  go_ret
  exact ⟨2,rfl,H.out.fails hlo HK.out (fun _ e=>e.elim) (H.out.rd.keptNo HK.out) 2 (by decide) ⟨0,.fin,false,[],by unfold ItemR;dsimp only;rw [if_pos HSh.out]⟩⟩
 ·have HT:=Hd (take_yes w R ao cap bs p 3 h.rd (by decide) (by omega))
  have hlt:=bitsAt_lt bs p 3
  obtain ⟨x,hx⟩:∃ x,x=bitsAt bs p 3:=⟨_,rfl⟩
  rw [← hx] at HT hlt
  obtain ⟨k,b,hb,hxk⟩:∃ k b:Nat,b < 2∧x=2*k+b:=⟨x / 2,x % 2,by omega,by omega⟩
  obtain ⟨l,hl⟩:∃ l:Bool,l=((b:Int) == 1):=⟨_,rfl⟩
  have hk4:k < 4:=by omega
  have HI:=Hd (ItemR.block_at (most:=v.most) (l:=v.la) (out:=out) (by omega) (hx.symm.trans hxk) hb hl)
  have e1:bits .and .u32 (x:Int) 1=(b:Int):=by rw [and1_u32d x (by omega)];omega
  have e2:(x:Int) / 2=(k:Int):=by omega
  have hl':=hl.symm
  have hl2:decide ((b:Int)=1)=l:=by rw [hl];rfl
  have hnp:p < p+3:=by omega
  have H:=Hd h
  clear h hx hxk hsh hlt hl
  go_enter Tryz.func127,Tryz.ntmps127
  go_wp2_with fail
  refine HT.out.mono ?_
  rintro e w1 ⟨rfl,hr1,hk1⟩
  have HR1:=Hd hr1;have HK1:=Hd hk1
  clear hr1 hk1 HT
  have ho1:=H.out.obj.kept HK1.out (fun e=>H.out.DR e)
  have c7:=ho1.c7
  have f7:=ho1.free 7
  have ho2:=ho1.setLa l
  have HO1:=Hd ho1
  obtain ⟨w2,hw2⟩:∃ w2,w2=w1.setCell ⟨D,7,none⟩ (.bool l):=⟨_,rfl⟩
  have hk2:Kept (OneB D) w1 w2:=by rw [hw2];exact Kept.setCell (S:=OneB D) (p:=⟨D,7,none⟩) (Kept.refl _ w1) (.inl rfl) _
  rw [← hw2] at ho2
  have HO2:=Hd ho2
  have HK2:=Hd hk2
  have c6:=ho2.c6
  have f6:=ho2.free 6
  have HW2:=Hd hw2
  simp only at c6
  clear ho1 ho2 hk2 hw2
  have hnx:v.nx=0:=H.out.nx
  go_upto_region 5 with fail
  rw [← HW2.out]
  have hk4':k=0∨k=1∨k=2∨k=3:=by omega
  rcases hk4' with rfl | rfl | rfl | rfl
  ·have e2':(x:Int) / 2=0:=e2
   have ho3:=HO2.out.setNx 1
   have hk3:Kept (OneB D) w2 (w2.setCell ⟨D,6,none⟩ (.int .i64 1)):=Kept.setCell (S:=OneB D) (p:=⟨D,6,none⟩) (Kept.refl _ w2) (.inl rfl) _
   have HO3:=Hd ho3;have HK3:=Hd (HK2.out.trans hk3)
   clear ho3 hk3 e2
   go_wp2
   go_ret
   have hT:=H.out.turn hlo HK1.out HR1.out HK3.out HO3.out rfl rfl rfl rfl (m' := .stored) rfl H.out.er (fun _ e=>e) (fun _ e => .inl e) trivial (H.out.fixAt HK1.out HK3.out rfl rfl)
   refine ⟨0,rfl,hT.2,_,_,_,_,_,hT.1,rfl,rfl,rfl,⟨rfl,rfl,rfl⟩,?_⟩
   rw [if_pos rfl]
   exact ⟨Steps.one HI.out,hnp⟩
  ·have e2':(x:Int) / 2=1:=e2
   have HSt:Hid (Calls Tryz.prog 151 #[.pointer (some ⟨D,0,none⟩)] w2 fun e w'=>e = .returned (.tuple #[])∧ItemW lo w D v .block out bs R ao cap p 0 w'):=by
    rcases H.out.fix with hfl | ⟨Fl,Fd,hfl,hfd,g1,g2⟩
    ·refine (startFixed_none HO2.out hfl).mono ?_
     rintro e w3 ⟨rfl,Fl,Fd,ho3,hk3,d1,d2⟩
     refine ⟨rfl,?_⟩
     have hk13:=HK2.out.trans hk3
     have z1:=HK1.out.size
     have z2:=HK2.out.size
     have hz:∀ k,w2.heap.size≤k∧k < w3.heap.size→S k∨(w.heap.size≤k∧k < w3.heap.size):=fun k hk => .inr ⟨by omega,hk.2⟩
     have hT:=H.out.turn hlo HK1.out HR1.out hk13 ho3 rfl rfl rfl rfl (m' := .sym fixL fixD) rfl H.out.er (S':=fun k=>S k∨(w.heap.size≤k∧k < w3.heap.size)) (fun _ e => .inl e) (fun _ e=>e) ⟨fixL_ok,fixD_ok,Fl,Fd,rfl,rfl,d1.mono hz,d2.mono hz⟩ (.inr ⟨Fl,Fd,rfl,rfl,d1.mono hz,d2.mono hz⟩)
     refine ⟨hT.2,_,_,_,_,_,hT.1,rfl,rfl,rfl,⟨rfl,rfl,rfl⟩,?_⟩
     rw [if_pos rfl]
     exact ⟨Steps.one HI.out,hnp⟩
    ·refine (startFixed_any2 HO2.out _ _ hfl hfd).mono ?_
     rintro e w3 ⟨rfl,ho3,hk3⟩
     refine ⟨rfl,?_⟩
     have hk13:=HK2.out.trans hk3
     have hfx:=H.out.fixAt (v':={ v with la:=l,li:=some ⟨Fl,0,none⟩,di:=some ⟨Fd,0,none⟩,nx:=4 }) HK1.out hk13 rfl rfl
     have hmd:DecG fixL Fl S w3∧DecG fixD Fd S w3:=by
      rcases hfx with e | ⟨a,b,ea,eb,x1,x2⟩
      ·rw [show v.fl=some _ from hfl] at e;cases e
      ·rw [show v.fl=some _ from hfl] at ea
       rw [show v.fd=some _ from hfd] at eb
       cases ea;cases eb
       exact ⟨x1,x2⟩
     have hT:=H.out.turn hlo HK1.out HR1.out hk13 ho3 rfl rfl rfl rfl (m' := .sym fixL fixD) rfl H.out.er (fun _ e=>e) (fun _ e => .inl e) ⟨fixL_ok,fixD_ok,Fl,Fd,rfl,rfl,hmd.1,hmd.2⟩ hfx
     refine ⟨hT.2,_,_,_,_,_,hT.1,rfl,rfl,rfl,⟨rfl,rfl,rfl⟩,?_⟩
     rw [if_pos rfl]
     exact ⟨Steps.one HI.out,hnp⟩
   clear e2
   go_wp2_with fail
   refine HSt.out.mono ?_
   rintro e w3 ⟨rfl,hW⟩
   have HW:=Hd hW
   clear hW
   go_wp2
   go_ret
   exact ⟨0,rfl,HW.out⟩
  ·have e2':(x:Int) / 2=2:=e2
   have ho3:=HO2.out.setNx 3
   have hk3:Kept (OneB D) w2 (w2.setCell ⟨D,6,none⟩ (.int .i64 3)):=Kept.setCell (S:=OneB D) (p:=⟨D,6,none⟩) (Kept.refl _ w2) (.inl rfl) _
   have HO3:=Hd ho3;have HK3:=Hd (HK2.out.trans hk3)
   clear ho3 hk3 e2
   go_wp2
   go_ret
   have hT:=H.out.turn hlo HK1.out HR1.out HK3.out HO3.out rfl rfl rfl rfl (m' := .head) rfl H.out.er (fun _ e=>e) (fun _ e => .inl e) trivial (H.out.fixAt HK1.out HK3.out rfl rfl)
   refine ⟨0,rfl,hT.2,_,_,_,_,_,hT.1,rfl,rfl,rfl,⟨rfl,rfl,rfl⟩,?_⟩
   rw [if_pos rfl]
   exact ⟨Steps.one HI.out,hnp⟩
  ·have e2':(x:Int) / 2=3:=e2
   clear e2
   go_wp2
   go_ret
   have hT:=H.out.turn hlo HK1.out HR1.out HK2.out HO2.out rfl rfl rfl rfl (m' := .block) H.out.nx H.out.er (fun _ e=>e) (fun _ e => .inl e) trivial (H.out.fixAt HK1.out HK2.out rfl rfl)
   refine ⟨6,rfl,hT.2,_,_,_,_,_,hT.1,rfl,rfl,rfl,⟨rfl,rfl,rfl⟩,?_⟩
   rw [if_neg (by decide)]
   exact ⟨⟨_,_,_,_,HI.out⟩,rfl,rfl,fun e=>absurd e (by decide)⟩
theorem readStored_yes {lo:Nat}{w:World}{D:Nat}{v:IV}{out bs:List Int}{S:Nat→Prop}{R:Nat}{ao:Option Addr}{cap p:Nat}(h:InfS lo w D v .stored out bs S R ao cap p)(hlo:lo≤w.heap.size)(hp:up8 p+32≤8*bs.length)(hne:bitsAt bs (up8 p) 16+bitsAt bs (up8 p+16) 16=65535):
  Calls Tryz.prog 128 #[.pointer (some ⟨D,0,none⟩),.pointer (some ⟨R,0,none⟩)] w fun e w'=>∃ er,e = .returned (.int .i64 er)∧ItemW lo w D v .stored out bs R ao cap p er w':=by
 have hi:ItemR bs v.most p .stored v.la out 0 (up8 p+32) (if bitsAt bs (up8 p) 16=0 then endM v.la else .bytes (bitsAt bs (up8 p) 16)) v.la out:=by
  unfold ItemR
  dsimp only
  rw [if_neg (by omega),if_neg (by omega)]
  exact ⟨rfl,rfl,rfl,rfl,rfl⟩
 have HA:=Hd (ralign_any w R ao cap bs p h.rd)
 have hlt:=bitsAt_lt bs (up8 p) 32
 have hpp:p < up8 p+32:=by unfold up8;omega
 rw [← bits_low,← bits_high] at hne
 rw [← bits_low] at hi
 obtain ⟨x,hx⟩:∃ x,x=bitsAt bs (up8 p) 32:=⟨_,rfl⟩
 have HT:Hid (∀ w,Rdr w R ao cap bs (up8 p)→Calls Tryz.prog 96 #[.pointer (some ⟨R,0,none⟩),.int .i64 32] w fun e w'=>e = .returned (.tuple #[.int .u32 (x:Nat),.bool true])∧Rdr w' R ao cap bs (up8 p+32)∧Kept (OneB R) w w'):=Hd fun w hw=>by rw [hx];exact take_yes w R ao cap bs (up8 p) 32 hw (by omega) hp
 rw [← hx] at hlt hne hi
 obtain ⟨a,ha⟩:∃ a,a=x % 65536:=⟨_,rfl⟩
 rw [← ha] at hi
 have HI:=Hd hi
 obtain ⟨y,hy⟩:∃ y,y=4294967295 - x:=⟨_,rfl⟩
 have e1:bits .and .u32 (x:Int) 65535=(a:Int):=by rw [and16 x (by omega),ha]
 have e2:bits .xor .u32 IntKind.u32.max (x:Int)=(y:Int):=by rw [not32 x (by omega),hy]
 have e3:(y:Int) / 65536=(a:Int):=by omega
 have ha2:a < 65536:=by omega
 have e5:IntKind.i64.wrap (a:Int)=a:=IntWalk.i64_in _ (by omega)
 have H:=Hd h
 clear h hp hx ha hy hne hlt hi
 go_enter Tryz.func128,Tryz.ntmps128
 go_wp2_with fail
 refine HA.out.mono ?_
 rintro e w1 ⟨rfl,hr1,hk1⟩
 have HT1:=Hd (HT.out w1 hr1);have HK1:=Hd hk1
 clear hr1 hk1 HA HT
 go_wp2_with fail
 refine HT1.out.mono ?_
 rintro e w2 ⟨rfl,hr2,hk2⟩
 have HK:=Hd (HK1.out.trans hk2)
 have HR:=Hd hr2
 clear hr2 hk2 HK1 HT1
 have hI2:InfO w2 D v:=H.out.obj.kept HK.out (fun e=>H.out.DR e)
 have c8:=hI2.c8
 have f8:=hI2.free 8
 have hI3:=hI2.setLf (a:Int)
 obtain ⟨w3,hw3⟩:∃ w3,w3=w2.setCell ⟨D,8,none⟩ (.int .i64 (a:Int)):=⟨_,rfl⟩
 have hk3:Kept (OneB D) w2 w3:=by rw [hw3];exact Kept.setCell (S:=OneB D) (p:=⟨D,8,none⟩) (Kept.refl _ w2) (.inl rfl) _
 rw [← hw3] at hI3
 have c6:=hI3.c6
 have f6:=hI3.free 6
 have hI4:=hI3.setNx 2
 obtain ⟨w4,hw4⟩:∃ w4,w4=w3.setCell ⟨D,6,none⟩ (.int .i64 2):=⟨_,rfl⟩
 have hk4:Kept (OneB D) w3 w4:=by rw [hw4];exact Kept.setCell (S:=OneB D) (p:=⟨D,6,none⟩) (Kept.refl _ w3) (.inl rfl) _
 rw [← hw4] at hI4
 have d8:=hI4.c8
 simp only at c6 d8
 have HW3:=Hd hw3;have HW4:=Hd hw4;have HK34:=Hd (hk3.trans hk4);have HI4:=Hd hI4
 clear hw3 hw4 hI2 hI3 hI4 hk3 hk4
 have e4:((a:Int) != (a:Int))=false:=by simp
 go_upto_region 6 with fail
 go_upto_region 8 with fail
 any_goals (exfalso;simp_all;done)
 go_upto_region 9 with fail
 rw [← HW3.out]
 go_upto_region 10 with fail
 rw [← HW4.out]
 clear c8 f8 c6 f6
 by_cases h0:a=0
 ·subst h0
  have HE:=Hd (endBlock_any w4 D _ HI4.out)
  go_wp2_with fail
  refine HE.out.mono ?_
  rintro e w5 ⟨rfl,ho5,hk5⟩
  have HO5:=Hd ho5;have HK5:=Hd hk5
  clear ho5 hk5
  go_wp2
  go_ret
  have hT:=H.out.turn hlo HK.out HR.out (HK34.out.trans HK5.out) HO5.out rfl rfl rfl rfl (m':=endM v.la) (endM_nx _).symm H.out.er (fun _ e=>e) (fun _ e => .inl e) (by cases hla:v.la <;> trivial) (H.out.fixAt HK.out (HK34.out.trans HK5.out) rfl rfl)
  refine ⟨0,rfl,hT.2,_,_,_,_,_,hT.1,rfl,rfl,rfl,⟨rfl,rfl,rfl⟩,?_⟩
  rw [if_pos rfl]
  have hi:=HI.out
  first | rw [if_pos rfl] at hi | rw [if_pos trivial] at hi
  exact ⟨Steps.one hi,hpp⟩
 ·have e8:((a:Int) == 0)=false:=by simpa using h0
  go_wp2
  go_ret
  have hT:=H.out.turn hlo HK.out HR.out HK34.out HI4.out rfl rfl rfl rfl (m' := .bytes a) rfl H.out.er (fun _ e=>e) (fun _ e => .inl e) ⟨rfl,by omega,by omega⟩ (H.out.fixAt HK.out HK34.out rfl rfl)
  refine ⟨0,rfl,hT.2,_,_,_,_,_,hT.1,rfl,rfl,rfl,⟨rfl,rfl,rfl⟩,?_⟩
  rw [if_pos rfl]
  have hi:=HI.out
  rw [if_neg h0] at hi
  exact ⟨Steps.one hi,hpp⟩
theorem readStored_any {lo:Nat}{w:World}{D:Nat}{v:IV}{out bs:List Int}{S:Nat→Prop}{R:Nat}{ao:Option Addr}{cap p:Nat}(h:InfS lo w D v .stored out bs S R ao cap p)(hlo:lo≤w.heap.size):
  Calls Tryz.prog 128 #[.pointer (some ⟨D,0,none⟩),.pointer (some ⟨R,0,none⟩)] w fun e w'=>∃ er,e = .returned (.int .i64 er)∧ItemW lo w D v .stored out bs R ao cap p er w':=by
 by_cases hsh:8*bs.length < up8 p+32
 ·refine (readStored_short2 w D v R ao cap bs p h.obj h.rd hsh).mono ?_
  rintro e w' ⟨rfl,hr,hk⟩
  exact ⟨2,rfl,h.fails hlo hk (fun _ e=>e) hr 2 (by decide) ⟨0,.fin,false,[],by unfold ItemR;dsimp only;rw [if_pos hsh]⟩⟩
 ·by_cases hne:bitsAt bs (up8 p) 16+bitsAt bs (up8 p+16) 16=65535
  ·exact readStored_yes h hlo (by omega) hne
  ·refine (readStored_bad2 w D v R ao cap bs p h.obj h.rd (by omega) hne).mono ?_
   rintro e w' ⟨rfl,hr,hk⟩
   exact ⟨6,rfl,h.fails hlo hk (fun _ e=>e) hr 6 (by decide) ⟨0,.fin,false,[],by unfold ItemR;dsimp only;rw [if_neg hsh,if_pos hne]⟩⟩
end Go.Proofs.YtfmjfgmbjdhogaaGreatDoor
