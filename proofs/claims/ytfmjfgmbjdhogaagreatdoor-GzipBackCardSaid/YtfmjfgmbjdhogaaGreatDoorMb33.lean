import Derived.Test.YtfmjfgmbjdhogaaGreatDoorMb32
import Derived.ChangeKeysEq
import Derived.Laws.StructEq
import Derived.Lib.SlBytesConst
set_option linter.unusedVariables false
set_option linter.unusedSimpArgs false
set_option maxRecDepth 20000
set_option maxHeartbeats 8000000
namespace Go.Proofs.YtfmjfgmbjdhogaaGreatDoor
open Go.RowKit
theorem long_short (L:List UInt8)(a:Nat)(h:L.length < a+3):longN L a=(0,0):=by
 rcases long_ok L a with ⟨h1,h2,_⟩ | ⟨h1,h2,_⟩
 ·exact Prod.ext h1 h2
 ·rw [mostN] at h2
  omega
set_option maxRecDepth 100000 in
theorem seek_any (lo hi Sk g o c next a W1 gh1 gb1 W2 gh2 gb2:Nat)(L:List UInt8)(hs1 bs1 hs2 bs2:List Int)(w:World)(hb:SkB lo hi Sk W1 gh1 gb1 W2 gh2 gb2)(hn:L.length≤32768)(hc:L.length≤c)(hcm:c≤9223372036854775807)
  (hS:SeekSt w Sk (some ⟨g,o,none⟩) c next (min next (L.length - 2)) (min next (L.length - 7)) W1 gh1 gb1 W2 gh2 gb2 L hs1 bs1 hs2 bs2) (hr:RdB w g o L 0 L.length) (hg:g < lo) (hlo:1 < lo) (hhi:hi≤w.heap.size) (hT:DeB w) (hna:next≤a) (ha:a≤L.length):
  Calls Tryz.prog 87 #[.pointer (some ⟨Sk,0,none⟩),.int .i64 (a:Int)] w fun e w'=>e = .returned (.tuple #[.int .i64 ((longN L a).1:Int),.int .i64 ((longN L a).2:Int)])∧∃ nx,nx≤a∧SeekR w lo hi Sk (some ⟨g,o,none⟩) c W1 gh1 gb1 W2 gh2 gb2 L w' nx:=by
 have HUp:=Hd (addup_any lo hi Sk g o c next a W1 gh1 gb1 W2 gh2 gb2 L hs1 bs1 hs2 bs2 w hb hn hc hcm hS hr hg hna ha)
 obtain ⟨n,hn'⟩:∃ n,n=L.length:=⟨_,rfl⟩
 have HNn:=Hd hn'
 have HS0:=Hd hS;have HR0:=Hd hr;have HB:=Hd hb;have HT:=Hd hT
 rw [← hn'] at hn hc ha
 obtain ⟨c0,_,_,_⟩:=hS.cells
 rw [← hn'] at c0
 have HShort:=Hd (long_short L a)
 have HLong:=Hd (fun k d (h:BestP (candN L a) (min a 32768) 2 k d)=>long_of h)
 obtain ⟨R,hR⟩:∃ R,R=longN L a:=⟨_,rfl⟩
 rw [← hR] at HShort HLong ⊢
 obtain ⟨lf,hlf⟩:∃ lf:Nat,lf=n - a:=⟨_,rfl⟩
 have hlfi:(n:Int) - (a:Int)=(lf:Int):=by omega
 have HLf:=Hd hlf
 have hlfb:lf≤32768:=by omega
 clear hS hr hb hT hn' hR hlf
 by_cases h3:lf < 3
 ·have h3i:(lf:Int) < 3:=by omega
  have HF:Hid (R=(0,0)):=Hd (HShort.out (by have:=HLf.out;have:=HNn.out;omega))
  clear h3
  go_enter Tryz.func87,Tryz.ntmps87
  go_wp2
  go_ret2
  exact ⟨by rw [HF.out];rfl,next,hna,Kept.refl _ _,hs1,bs1,hs2,bs2,HS0.out⟩
 ·have h3i:¬ (lf:Int) < 3:=by omega
  have hl3:3≤lf:=by omega
  clear h3
  go_enter Tryz.func87,Tryz.ntmps87
  go_wp2_with fail
  with_reducible refine HUp.out.mono ?_
  rintro e w1 ⟨rfl,hkU,xs1,ys1,xs2,ys2,hSU⟩
  have HKU:=Hd hkU
  have hmina:min a (L.length - 2)=a:=by have:=HNn.out;have:=HLf.out;omega
  rw [hmina] at hSU
  have HSU:=Hd hSU
  obtain ⟨d0,_,_,_⟩:=hSU.cells
  rw [← HNn.out] at d0
  have HNew:=Hd (newbest_any (some ⟨g,o,none⟩) n c a w1 ha (by omega))
  obtain ⟨m,hm⟩:∃ m,m=min 258 (n - a):=⟨_,rfl⟩
  rw [← hm] at HNew
  have HM:=Hd hm
  have hmlf:m=min 258 lf:=by have:=HLf.out;omega
  have HMl:=Hd hmlf
  clear hkU hSU c0 hm hmlf hmina
  go_wp2_with fail
  with_reducible refine HNew.out.mono ?_
  rintro e w2 ⟨rfl,hk2⟩
  have HK2:=Hd (HKU.out.trans hk2.dom)
  have HS2:=Hd (HSU.out.keptS HB.out hk2 (fun _ _ h=>h))
  clear hk2 d0
  obtain ⟨r,hr⟩:∃ r,r=w2.heap.size:=⟨_,rfl⟩
  obtain ⟨w3,hw3⟩:∃ w3,w3=w2.alloc (.cells #[.slice (some ⟨g,o,none⟩) n c,.int .i64 (a:Int),.int .i64 (m:Int),.int .i64 2,.int .i64 0] 180):=⟨_,rfl⟩
  have hk3:Kept NoB w2 w3:=by rw [hw3];exact (Kept.refl _ _).alloc _
  have HB3:Hid (BestAt w3 r g o n c a m 2 0):=Hd (by rw [hw3,hr];exact heap_alloc_new _ _)
  have hrw:w.heap.size≤r:=by have:=HK2.out.size;omega
  have hrhi:hi≤r:=by omega
  have hlh:lo < hi:=by have:=HB.out.b0;omega
  have hgr:g≠r:=by omega
  have HK3:=Hd (HK2.out.trans hk3.dom)
  have HS3:=Hd (HS2.out.keptS HB.out hk3 (fun _ _ h=>h))
  have HInr:Hid (∀ k,InB lo hi k→¬ OneB r k):=Hd (fun k h e=>by have e2:k=r:=e;have:=h.2;omega)
  -- what a chain's try gives
  have HTry1:=Hd (fun (W:World) (hk:Kept (InB lo hi) w W) (hS:SeekSt W Sk (some ⟨g,o,none⟩) c a a (min a (L.length - 7)) W1 gh1 gb1 W2 gh2 gb2 L xs1 ys1 xs2 ys2) (hB:BestAt W r g o n c a m 2 0)=>
   chtry_any Sk 2 W1 gh1 gb1 n 3 r g o n c a m 2 xs1 ys1 L W HB.out.w1 (by rw [HNn.out];exact hS.cells.2.2.1) hS.h1 hS.r1 hS.c1 (by rw [hS.l1,HNn.out]) hn (by have:=HLf.out;omega) (by have:=HB.out.b0;omega) (by have:=HB.out.b1;omega) (by have:=HB.out.b2;omega) (by omega) (by omega) hB (by rw [HNn.out];exact HR0.out.keptS hk (fun e=>by have:=e.1;omega)) HNn.out hc hcm HM.out rfl (by have:=HMl.out;omega) (by omega) (by have:=HLf.out;omega) (HT.out.keptS hk (fun e=>by have:=e.1;omega)))
  have HTry2:=Hd (fun (h8:8≤lf) (W:World) (hk:Kept (InB lo hi) w W) (hS:SeekSt W Sk (some ⟨g,o,none⟩) c a a (min a (L.length - 7)) W1 gh1 gb1 W2 gh2 gb2 L xs1 ys1 xs2 ys2) (hB:BestAt W r g o n c a m 7 0)=>
   chtry_any Sk 5 W2 gh2 gb2 n 8 r g o n c a m 7 xs2 ys2 L W HB.out.w2 (by rw [HNn.out];exact hS.cells.2.2.2) hS.h2 hS.r2 (by have:=hS.c2;rw [show min a (L.length - 7)=a by have:=HLf.out;have:=HNn.out;omega] at this;exact this) (by rw [hS.l2,HNn.out]) hn (by have:=HLf.out;omega) (by have:=HB.out.b0;omega) (by have:=HB.out.b3;omega) (by have:=HB.out.b4;omega) (by omega) (by omega) hB (by rw [HNn.out];exact HR0.out.keptS hk (fun e=>by have:=e.1;omega)) HNn.out hc hcm HM.out rfl (by have:=HMl.out;omega) (by omega) (by have:=HLf.out;omega) (HT.out.keptS hk (fun e=>by have:=e.1;omega)))
  go_upto_region 6 with fail
  rw [← hr,← hw3]
  clear hr hw3 hk3 HUp HSU HNew HS2 HS0
  have hfin:∀ W,Kept (InB lo hi) w W→SeekSt W Sk (some ⟨g,o,none⟩) c a a (min a (L.length - 7)) W1 gh1 gb1 W2 gh2 gb2 L xs1 ys1 xs2 ys2→∃ nx,nx≤a∧SeekR w lo hi Sk (some ⟨g,o,none⟩) c W1 gh1 gb1 W2 gh2 gb2 L W nx:=fun W hk hS=>⟨a,Nat.le_refl _,hk,xs1,ys1,xs2,ys2,by
   have hmina:min a (L.length - 2)=a:=by have:=HNn.out;have:=HLf.out;omega
   rw [hmina];exact hS⟩
  have HFin:=Hd hfin
  have hma:min a 32768=a:=by omega
  rw [hma] at HLong
  clear hfin hma
  go_upto_if 27 with fail
  go_cut [27] from 26 to 46 (fun v27 wx=>Hid (BestAt wx r g o n c a m 2 0)∧Hid (Kept (InB lo hi) w wx)∧Hid (SeekSt wx Sk (some ⟨g,o,none⟩) c a a (min a (L.length - 7)) W1 gh1 gb1 W2 gh2 gb2 L xs1 ys1 xs2 ys2))
  case first=>
   by_cases h8:8≤lf
   ·have h8i:(8:Int)≤(lf:Int):=by omega
    have hc3:=obj_cell HB3.out 3
    have hz3:w3.frozen? ⟨r,3,none⟩=false:=obj_free HB3.out 3
    have ho:=obj_set HB3.out 3 (.int .i64 7)
    have hk4:Kept (OneB r) w3 (w3.setCell ⟨r,3,none⟩ (.int .i64 7)):=Kept.setCell (S:=OneB r) (p:=⟨r,3,none⟩) (Kept.refl _ _) (.inl rfl) _
    have HB4:Hid (BestAt (w3.setCell ⟨r,3,none⟩ (.int .i64 7)) r g o n c a m 7 0):=Hd ho
    have HS4:=Hd (HS3.out.keptS HB.out hk4 HInr.out)
    have HK4:Hid (Kept (InB lo hi) w (w3.setCell ⟨r,3,none⟩ (.int .i64 7))):=Hd (Kept.setCell (S:=InB lo hi) (p:=⟨r,3,none⟩) HK3.out (.inr hrw) _)
    go_upto_region 8 with fail
    obtain ⟨w4,hw4⟩:∃ w4,w4=w3.setCell ⟨r,3,none⟩ (.int .i64 7):=⟨_,rfl⟩
    rw [← hw4] at HB4 HS4 HK4 ⊢
    clear hw4 hk4 ho hc3 hz3
    obtain ⟨d0,_,_,_⟩:=HS4.out.cells
    rw [← HNn.out] at d0
    have g0:∀ W,Kept (OneB r) w4 W→W.cell? ⟨Sk,0,none⟩=some (.slice (some ⟨g,o,none⟩) n c):=fun W hk=>hk.cellS d0 (fun e=>by have e2:Sk=r:=e;have:=HB.out.b0;omega)
    have HWd:=Hd (fun W (hk:Kept NoB w4 W)=>word_any g (o+a) (n - a) (c - a) a L W (by have:=((HR0.out.keptS (HK4.out.trans hk.dom) (fun e=>by have:=e.1;omega)).drop a);rw [Nat.zero_add,← HNn.out] at this;exact this) (by have:=HLf.out;omega) (by omega) (by have:=HLf.out;have:=HNn.out;omega))
    have HTr:=Hd (fun W (hk:Kept NoB w4 W)=>HTry2.out h8 W (HK4.out.trans hk.dom) (HS4.out.keptS HB.out hk (fun _ _ h=>h)) (HB4.out.kept hk))
    obtain ⟨key,hkey⟩:∃ key,key=keyN L 8 a:=⟨_,rfl⟩
    rw [← hkey] at HWd HTr
    have han:(a:Int)≤(n:Int):=by omega
    have hca:¬ c=a:=by omega
    clear d0 hkey h8
    go_wp2_with fail
    refine wp_region_noPanic ?_
    refine wp_region_held_drew (S:=fun W=>Kept (OneB r) w4 W) (by kernel_rfl) (Kept.drew (Kept.refl _ _)) (fun hHeld=>?_)
    obtain ⟨wd,hwd⟩:∃ x,x=w4.drew:=⟨_,rfl⟩
    have hkd:Kept NoB w4 wd:=by rw [hwd];exact Kept.drew (Kept.refl _ _)
    rw [← hwd] at hHeld ⊢
    clear hwd
    refine wpAnyH_take (i:=0) (v:=?_) (by rw [List.getElem?_toArray];rfl) (by kernel_rfl) (by kernel_rfl) (by kernel_rfl) (fun _ _ _ h=>h) (Or.inl ⟨by rfl,?hyq1_⟩) (by assumption) ?restq1_
    case hyq1_=>(intro w hSw;(try dsimp only at hSw);(try have e0:=g0 w hSw);go_simp;(try with_reducible rfl))
    try simp only [Act.put,List.setIfInBounds_toArray,List.set_cons_zero,List.set_cons_succ]
    refine wpAnyH_take (i:=1) (v:=?_) (by rw [List.getElem?_toArray];rfl) (by kernel_rfl) (by kernel_rfl) (by kernel_rfl) (fun _ _ _ h=>h) (Or.inl ⟨by rfl,?hyq2_⟩) (by assumption) ?restq2_
    case hyq2_=>(intro w hSw;(try dsimp only at hSw);(try have e0:=g0 w hSw);go_simp;(try with_reducible rfl))
    try simp only [Act.put,List.setIfInBounds_toArray,List.set_cons_zero,List.set_cons_succ]
    refine wpAnyH_take (i:=2) (v:=?_) (by rw [List.getElem?_toArray];rfl) (by kernel_rfl) (by kernel_rfl) (by kernel_rfl) (fun _ _ _ h=>h) (Or.inl ⟨by rfl,?hyq3_⟩) (by assumption) ?restq3_
    case hyq3_=>(intro w hSw;(try dsimp only at hSw);(try have e0:=g0 w hSw);go_simp;(try with_reducible rfl))
    try simp only [Act.put,List.setIfInBounds_toArray,List.set_cons_zero,List.set_cons_succ]
    refine wpAnyH_take (i:=3) (v:=?_) (by rw [List.getElem?_toArray];rfl) (by kernel_rfl) (by kernel_rfl) (by kernel_rfl) (fun _ _ _ h=>h) (Or.inl ⟨by rfl,?hyq4_⟩) (by assumption) ?restq4_
    case hyq4_=>(intro w hSw;(try dsimp only at hSw);(try have e0:=g0 w hSw);go_simp;(try with_reducible rfl))
    try simp only [Act.put,List.setIfInBounds_toArray,List.set_cons_zero,List.set_cons_succ]
    refine wpAnyH_take (i:=4) (v:=?_) (by rw [List.getElem?_toArray];rfl) (by kernel_rfl) (by kernel_rfl) (by kernel_rfl) (fun _ _ _ h=>h) (Or.inl ⟨by rfl,?hyq5_⟩) (by assumption) ?restq5_
    case hyq5_=>(intro w hSw;(try dsimp only at hSw);(try have e0:=g0 w hSw);go_simp;(try with_reducible rfl))
    try simp only [Act.put,List.setIfInBounds_toArray,List.set_cons_zero,List.set_cons_succ]
    refine wpAnyH_take (i:=5) (v:=?_) (by rw [List.getElem?_toArray];rfl) (by kernel_rfl) (by kernel_rfl) (by kernel_rfl) (fun _ _ _ h=>h) (Or.inl ⟨by rfl,?hyq6_⟩) (by assumption) ?restq6_
    case hyq6_=>(intro w hSw;(try dsimp only at hSw);(try have e0:=g0 w hSw);go_simp;(try with_reducible rfl))
    try simp only [Act.put,List.setIfInBounds_toArray,List.set_cons_zero,List.set_cons_succ]
    refine wpAnyH_take (i:=6) (v:=?_) (by rw [List.getElem?_toArray];rfl) (by kernel_rfl) (by kernel_rfl) (by kernel_rfl) (fun _ _ _ h=>h) (Or.inl ⟨by rfl,?hyq7_⟩) (by assumption) ?restq7_
    case hyq7_=>(intro w hSw;(try dsimp only at hSw);(try have e0:=g0 w hSw);go_simp;(try with_reducible rfl))
    try simp only [Act.put,List.setIfInBounds_toArray,List.set_cons_zero,List.set_cons_succ]
    refine wpAnyH_take (i:=7) (v:=?_) (by rw [List.getElem?_toArray];rfl) (by kernel_rfl) (by kernel_rfl) (by kernel_rfl) (fun _ _ _ h=>h) (Or.inl ⟨by rfl,?hyq8_⟩) (by assumption) ?restq8_
    case hyq8_=>(intro w hSw;(try dsimp only at hSw);(try have e0:=g0 w hSw);go_simp;(try with_reducible rfl))
    try simp only [Act.put,List.setIfInBounds_toArray,List.set_cons_zero,List.set_cons_succ]
    refine wpAnyH_take (i:=8) (v:=?_) (by rw [List.getElem?_toArray];rfl) (by kernel_rfl) (by kernel_rfl) (by kernel_rfl) (fun _ _ _ h=>h) (Or.inl ⟨by rfl,?hyq9_⟩) (by assumption) ?restq9_
    case hyq9_=>(intro w hSw;(try dsimp only at hSw);(try have e0:=g0 w hSw);go_simp;(try with_reducible rfl))
    try simp only [Act.put,List.setIfInBounds_toArray,List.set_cons_zero,List.set_cons_succ]
    refine wpAnyH_ready (rs:=[9]) (by kernel_rfl) (by simp) ?_
    refine AllReadyH.cons (by rw [List.getElem?_toArray];rfl) (fun K hK=>?_) AllReadyH.nil
    go_simp
    go_at_call 118
    (with_reducible refine (HWd.out wd hkd).mono ?_)
    rintro e wn ⟨rfl,hkn⟩
    have hSn:=hHeld.trans (hkn.dom:Kept (OneB r) wd wn)
    have hkN:Kept NoB w4 wn:=hkd.trans hkn
    go_wp2_with fail
    refine hK.out _ _ hSn (fun hHeld=>?_)
    clear hK K hSn
    try simp only [Act.put,List.setIfInBounds_toArray,List.set_cons_zero,List.set_cons_succ]
    refine wpAnyH_ready (rs:=[10]) (by kernel_rfl) (by simp) ?_
    refine AllReadyH.cons (by rw [List.getElem?_toArray];rfl) (fun K hK=>?_) AllReadyH.nil
    go_simp
    go_at_call 117
    (with_reducible refine (HTr.out wn hkN).mono ?_)
    rintro e wm ⟨rfl,hkm,z,d,hbm,hpm⟩
    have hSn:=hHeld.trans hkm
    have HKm:=Hd ((hkN.dom:Kept (OneB r) w4 wn).trans hkm)
    have HBm:=Hd hbm
    have HPm:=Hd hpm
    go_wp2_with fail
    refine hK.out _ _ hSn (fun hHeld=>?_)
    clear hK K hSn hbm hpm hkm
    try simp only [Act.put,List.setIfInBounds_toArray,List.set_cons_zero,List.set_cons_succ]
    refine wpAnyH_done (by kernel_rfl) ?_ _
    refine NoPanic.normal ?_
    clear hHeld hkd hkN hkn g0
    obtain ⟨b0,b1,b2,b3,b4⟩:=HBm.out.cells
    have HKm2:Hid (Kept (InB lo hi) w wm):=Hd (((HK4.out.mono (T:=fun k=>InB lo hi k∨k=r) (fun k _ h => .inl h)).trans (HKm.out.mono (fun k _ h => .inr h))).mono (fun k hk h=>by
     rcases h with h | h
     ·exact h
     ·omega))
    have HSm:=Hd (HS4.out.keptS HB.out HKm.out HInr.out)
    by_cases hd0:d=0
    ·have hdi:¬ (0:Int) < (d:Int):=by omega
     have hz7:=(HPm.out.le).2.2.1 hd0
     subst hd0
     have hz3:wm.frozen? ⟨r,3,none⟩=false:=obj_free HBm.out 3
     have ho:=obj_set HBm.out 3 (.int .i64 2)
     have hk5:Kept (OneB r) wm (wm.setCell ⟨r,3,none⟩ (.int .i64 2)):=Kept.setCell (S:=OneB r) (p:=⟨r,3,none⟩) (Kept.refl _ _) (.inl rfl) _
     have HB5:Hid (BestAt (wm.setCell ⟨r,3,none⟩ (.int .i64 2)) r g o n c a m 2 0):=Hd ho
     have HS5:=Hd (HSm.out.keptS HB.out hk5 HInr.out)
     have HK5:Hid (Kept (InB lo hi) w (wm.setCell ⟨r,3,none⟩ (.int .i64 2))):=Hd (Kept.setCell (S:=InB lo hi) (p:=⟨r,3,none⟩) HKm2.out (.inr hrw) _)
     clear ho hk5 hz7
     go_wp2
     go_meet
     exact ⟨HB5,HK5,HS5⟩
    ·have hdi:(0:Int) < (d:Int):=by omega
     have HF:Hid (R=(z,d)):=Hd (by rw [HLong.out z d (HPm.out.lower hd0 (by omega)),if_neg hd0])
     have HAn:=Hd (answer_any r g o n c a m z d wm HBm.out)
     rw [if_neg hd0] at HAn
     clear hd0
     go_wp2_with fail
     with_reducible refine HAn.out.mono ?_
     rintro e w6 ⟨rfl,hk6⟩
     have HX:=Hd (HFin.out w6 (HKm2.out.trans hk6.dom) (HSm.out.keptS HB.out hk6 (fun _ _ h=>h)))
     clear hk6
     go_wp2
     go_ret2
     exact ⟨by rw [HF.out];rfl,HX.out⟩
   ·have h8i:¬ (8:Int)≤(lf:Int):=by omega
    go_wp2
    go_meet
    exact ⟨HB3,HK3,HS3⟩
  case rest=>
  obtain ⟨HB4,HK4,HS4⟩:=hcut
  obtain ⟨w4,hw4⟩:∃ w4,w4=wc:=⟨_,rfl⟩
  rw [← hw4] at HB4 HK4 HS4 ⊢
  clear hw4
  obtain ⟨d0,_,_,_⟩:=HS4.out.cells
  rw [← HNn.out] at d0
  have HWd:=Hd (fun W (hk:Kept NoB w4 W)=>shortkey_any Sk g o n c a L W (hk.cell d0) (by have:=HR0.out.keptS (HK4.out.trans hk.dom) (fun e=>by have:=e.1;omega);rw [← HNn.out] at this;exact this) HNn.out (by have:=HLf.out;omega) (by omega))
  have HTr:=Hd (fun W (hk:Kept NoB w4 W)=>HTry1.out W (HK4.out.trans hk.dom) (HS4.out.keptS HB.out hk (fun _ _ h=>h)) (HB4.out.kept hk))
  obtain ⟨key,hkey⟩:∃ key,key=keyN L 3 a:=⟨_,rfl⟩
  rw [← hkey] at HWd HTr
  clear d0 hkey
  go_wp2_with fail
  refine wp_region_noPanic ?_
  refine wp_region_held_drew (S:=fun W=>Kept (OneB r) w4 W) (by kernel_rfl) (Kept.drew (Kept.refl _ _)) (fun hHeld=>?_)
  obtain ⟨wd,hwd⟩:∃ x,x=w4.drew:=⟨_,rfl⟩
  have hkd:Kept NoB w4 wd:=by rw [hwd];exact Kept.drew (Kept.refl _ _)
  rw [← hwd] at hHeld ⊢
  clear hwd
  refine wpAnyH_take (i:=0) (v:=?_) (by rw [List.getElem?_toArray];rfl) (by kernel_rfl) (by kernel_rfl) (by kernel_rfl) (fun _ _ _ h=>h) (Or.inl ⟨by rfl,?hyq10_⟩) (by assumption) ?restq10_
  case hyq10_=>(intro w hSw;(try dsimp only at hSw);(try have e0:=g0 w hSw);go_simp;(try with_reducible rfl))
  try simp only [Act.put,List.setIfInBounds_toArray,List.set_cons_zero,List.set_cons_succ]
  refine wpAnyH_take (i:=1) (v:=?_) (by rw [List.getElem?_toArray];rfl) (by kernel_rfl) (by kernel_rfl) (by kernel_rfl) (fun _ _ _ h=>h) (Or.inl ⟨by rfl,?hyq11_⟩) (by assumption) ?restq11_
  case hyq11_=>(intro w hSw;(try dsimp only at hSw);(try have e0:=g0 w hSw);go_simp;(try with_reducible rfl))
  try simp only [Act.put,List.setIfInBounds_toArray,List.set_cons_zero,List.set_cons_succ]
  refine wpAnyH_take (i:=2) (v:=?_) (by rw [List.getElem?_toArray];rfl) (by kernel_rfl) (by kernel_rfl) (by kernel_rfl) (fun _ _ _ h=>h) (Or.inl ⟨by rfl,?hyq12_⟩) (by assumption) ?restq12_
  case hyq12_=>(intro w hSw;(try dsimp only at hSw);(try have e0:=g0 w hSw);go_simp;(try with_reducible rfl))
  try simp only [Act.put,List.setIfInBounds_toArray,List.set_cons_zero,List.set_cons_succ]
  refine wpAnyH_take (i:=3) (v:=?_) (by rw [List.getElem?_toArray];rfl) (by kernel_rfl) (by kernel_rfl) (by kernel_rfl) (fun _ _ _ h=>h) (Or.inl ⟨by rfl,?hyq13_⟩) (by assumption) ?restq13_
  case hyq13_=>(intro w hSw;(try dsimp only at hSw);(try have e0:=g0 w hSw);go_simp;(try with_reducible rfl))
  try simp only [Act.put,List.setIfInBounds_toArray,List.set_cons_zero,List.set_cons_succ]
  refine wpAnyH_take (i:=4) (v:=?_) (by rw [List.getElem?_toArray];rfl) (by kernel_rfl) (by kernel_rfl) (by kernel_rfl) (fun _ _ _ h=>h) (Or.inl ⟨by rfl,?hyq14_⟩) (by assumption) ?restq14_
  case hyq14_=>(intro w hSw;(try dsimp only at hSw);(try have e0:=g0 w hSw);go_simp;(try with_reducible rfl))
  try simp only [Act.put,List.setIfInBounds_toArray,List.set_cons_zero,List.set_cons_succ]
  refine wpAnyH_ready (rs:=[5]) (by kernel_rfl) (by simp) ?_
  refine AllReadyH.cons (by rw [List.getElem?_toArray];rfl) (fun K hK=>?_) AllReadyH.nil
  go_simp
  go_at_call 120
  (with_reducible refine (HWd.out wd hkd).mono ?_)
  rintro e wn ⟨rfl,hkn⟩
  have hSn:=hHeld.trans (hkn.dom:Kept (OneB r) wd wn)
  have hkN:Kept NoB w4 wn:=hkd.trans hkn
  go_wp2_with fail
  refine hK.out _ _ hSn (fun hHeld=>?_)
  clear hK K hSn
  try simp only [Act.put,List.setIfInBounds_toArray,List.set_cons_zero,List.set_cons_succ]
  refine wpAnyH_ready (rs:=[6]) (by kernel_rfl) (by simp) ?_
  refine AllReadyH.cons (by rw [List.getElem?_toArray];rfl) (fun K hK=>?_) AllReadyH.nil
  go_simp
  go_at_call 117
  (with_reducible refine (HTr.out wn hkN).mono ?_)
  rintro e wm ⟨rfl,hkm,z,d,hbm,hpm⟩
  have hSn:=hHeld.trans hkm
  have HKm:=Hd ((hkN.dom:Kept (OneB r) w4 wn).trans hkm)
  have HBm:=Hd hbm
  have HPm:=Hd hpm
  go_wp2_with fail
  refine hK.out _ _ hSn (fun hHeld=>?_)
  clear hK K hSn hbm hpm hkm
  try simp only [Act.put,List.setIfInBounds_toArray,List.set_cons_zero,List.set_cons_succ]
  refine wpAnyH_done (by kernel_rfl) ?_ _
  refine NoPanic.normal ?_
  clear hHeld hkd hkN hkn
  have HKm2:Hid (Kept (InB lo hi) w wm):=Hd (((HK4.out.mono (T:=fun k=>InB lo hi k∨k=r) (fun k _ h => .inl h)).trans (HKm.out.mono (fun k _ h => .inr h))).mono (fun k hk h=>by
   rcases h with h | h
   ·exact h
   ·omega))
  have HSm:=Hd (HS4.out.keptS HB.out HKm.out HInr.out)
  have HF:Hid (R=if d=0 then (0,0) else (z,d)):=Hd (HLong.out z d HPm.out)
  have HAn:=Hd (answer_any r g o n c a m z d wm HBm.out)
  have HE:Hid ((if d=0 then (0:Int) else (z:Int))=((R.1:Nat):Int)∧(d:Int)=((R.2:Nat):Int)):=Hd (by
   rw [HF.out]
   split
   ·rename_i h;rw [h];exact ⟨rfl,rfl⟩
   ·exact ⟨rfl,rfl⟩)
  rw [HE.out.1,HE.out.2] at HAn
  go_wp2_with fail
  with_reducible refine HAn.out.mono ?_
  rintro e w6 ⟨rfl,hk6⟩
  have HX:=Hd (HFin.out w6 (HKm2.out.trans hk6.dom) (HSm.out.keptS HB.out hk6 (fun _ _ h=>h)))
  clear hk6
  go_wp2
  go_ret2
  exact ⟨rfl,HX.out⟩
def lazyN (lv:Int)(L:List UInt8)(i:Nat):Nat × Nat:=
 if lv < 1 then (0,0) else if 7≤lv∧0 < (longN L i).1∧(longN L i).1 < (longN L (i+1)).1 then (0,0) else longN L i
def litT (L:List UInt8)(i:Nat):Tk:=⟨0,0,((L.getD i 0).toNat:Int)⟩
def stepT (lv:Int)(L:List UInt8)(i:Nat):Tk × Nat:=if (lazyN lv L i).1=0 then (litT L i,i+1) else (⟨(lazyN lv L i).1,(lazyN lv L i).2,0⟩,i+(lazyN lv L i).1)
theorem step_lt (lv:Int)(L:List UInt8)(i:Nat):i < (stepT lv L i).2:=by
 unfold stepT
 split
 ·exact Nat.lt_succ_self i
 ·rename_i h
  show i < i+_
  omega
def restT (lv:Int)(L:List UInt8)(i:Nat):List Tk:=if h:i < L.length then (stepT lv L i).1 :: restT lv L (stepT lv L i).2 else []
 termination_by L.length - i
 decreasing_by (have:=step_lt lv L i;omega)
theorem rest_step (lv:Int)(L:List UInt8)(i:Nat)(h:i < L.length):restT lv L i=(stepT lv L i).1 :: restT lv L (stepT lv L i).2:=by
 rw [restT,dif_pos h]
theorem rest_end (lv:Int)(L:List UInt8)(i:Nat)(h:L.length≤i):restT lv L i=[]:=by
 rw [restT,dif_neg (by omega)]
theorem long_bd (L:List UInt8)(i:Nat)(hi:i≤L.length):(longN L i).1≤258∧i+(longN L i).1≤L.length∧(longN L i).2≤32768:=by
 rcases long_ok L i with ⟨h1,h2,_⟩ | ⟨h1,h2,h3,h4,_⟩
 ·omega
 ·rw [mostN] at h2;omega
theorem lazy_bd (lv:Int)(L:List UInt8)(i:Nat)(hi:i≤L.length):(lazyN lv L i).1≤258∧i+(lazyN lv L i).1≤L.length∧(lazyN lv L i).2≤32768:=by
 have h:=long_bd L i hi
 have h0:((0,0):Nat × Nat).1≤258∧i+((0,0):Nat × Nat).1≤L.length∧((0,0):Nat × Nat).2≤32768:=⟨by decide,hi,by decide⟩
 unfold lazyN
 split
 ·exact h0
 ·split
  ·exact h0
  ·exact h
theorem step_lit {lv:Int}{L:List UInt8}{i:Nat}(h:(lazyN lv L i).1=0):stepT lv L i=(litT L i,i+1):=if_pos h
theorem step_tok {lv:Int}{L:List UInt8}{i:Nat}(h:(lazyN lv L i).1≠0):stepT lv L i=(⟨(lazyN lv L i).1,(lazyN lv L i).2,0⟩,i+(lazyN lv L i).1):=if_neg h
theorem step_le (lv:Int)(L:List UInt8)(i:Nat)(hi:i < L.length):(stepT lv L i).2≤L.length:=by
 have:=lazy_bd lv L i (by omega)
 by_cases h:(lazyN lv L i).1=0
 ·rw [step_lit h];exact hi
 ·rw [step_tok h];exact this.2.1
theorem rest_len (lv:Int)(L:List UInt8):∀ k i,L.length - i≤k→i≤L.length→(restT lv L i).length≤L.length - i:=by
 intro k
 induction k with
 | zero=>intro i h hi;rw [rest_end lv L i (by omega)];simp
 | succ k ih=>
  intro i h hi
  by_cases hl:i < L.length
  ·have h1:=step_lt lv L i
   have h2:=step_le lv L i hl
   rw [rest_step lv L i hl,List.length_cons]
   have:=ih (stepT lv L i).2 (by omega) h2
   omega
  ·rw [rest_end lv L i (by omega)];simp
def SeekAt (w1:World)(lo hi Sk:Nat)(ao:Option Addr)(c W1 gh1 gb1 W2 gh2 gb2:Nat)(L:List UInt8)(w:World)(i:Nat):Prop:=Kept (InB lo hi) w1 w∧∃ nx,nx≤i∧∃ hs1 bs1 hs2 bs2,SeekSt w Sk ao c nx (min nx (L.length - 2)) (min nx (L.length - 7)) W1 gh1 gb1 W2 gh2 gb2 L hs1 bs1 hs2 bs2
theorem SeekAt.le {w1 w:World}{lo hi Sk:Nat}{ao:Option Addr}{c W1 gh1 gb1 W2 gh2 gb2 i j:Nat}{L:List UInt8}(h:SeekAt w1 lo hi Sk ao c W1 gh1 gb1 W2 gh2 gb2 L w i)(hij:i≤j):SeekAt w1 lo hi Sk ao c W1 gh1 gb1 W2 gh2 gb2 L w j:=by
 obtain ⟨h1,nx,h2,h3⟩:=h
 exact ⟨h1,nx,by omega,h3⟩
theorem SeekAt.keptS {S:Nat→Prop}{w1 w w':World}{lo hi Sk:Nat}{ao:Option Addr}{c W1 gh1 gb1 W2 gh2 gb2 i:Nat}{L:List UInt8}(h:SeekAt w1 lo hi Sk ao c W1 gh1 gb1 W2 gh2 gb2 L w i)(hb:SkB lo hi Sk W1 gh1 gb1 W2 gh2 gb2)(hk:Kept S w w')(hs:∀ k,InB lo hi k→¬ S k)(hS:∀ k,k < w1.heap.size→S k→InB lo hi k):SeekAt w1 lo hi Sk ao c W1 gh1 gb1 W2 gh2 gb2 L w' i:=by
 obtain ⟨h1,nx,h2,hs1,bs1,hs2,bs2,h3⟩:=h
 refine ⟨((h1.mono (T:=fun k=>InB lo hi k∨S k) (fun k _ e => .inl e)).trans (hk.mono (fun k _ e => .inr e))).mono (fun k hk2 e=>?_),nx,h2,hs1,bs1,hs2,bs2,h3.keptS hb hk hs⟩
 rcases e with e | e
 ·exact e
 ·exact hS k hk2 e
set_option maxRecDepth 100000 in
theorem tokens_any (ao:Option Addr)(n c:Nat)(lv:Int)(L:List UInt8)(w:World)(hr:RowB w w.heap.size ao L)(hn:n=L.length)(hn3:n≤32768)(hc:n≤c)(hcm:c≤9223372036854775807)(hT:DeB w)(hlv:1≤lv∧lv≤9223372036854775807):
  Calls Tryz.prog 51 #[.slice ao n c,.int .i64 lv] w fun e w'=>∃ a2 c2,e = .returned (.slice a2 (restT lv L 0).length c2)∧TkSt w.heap.size w' a2 (restT lv L 0).length c2 (restT lv L 0)∧Kept NoB w w':=by
 have HNew:Hid (∀ W,Calls Tryz.prog 86 #[.slice ao n c] W fun e w'=>∃ Sk W1 gh1 gb1 W2 gh2 gb2 hs1 bs1 hs2 bs2,e = .returned (.pointer (some ⟨Sk,0,none⟩))∧SkB W.heap.size w'.heap.size Sk W1 gh1 gb1 W2 gh2 gb2∧SeekSt w' Sk ao c 0 0 0 W1 gh1 gb1 W2 gh2 gb2 L hs1 bs1 hs2 bs2∧Kept NoB W w'):=Hd (fun W=>by have:=newseek_any ao c L W (by omega);rw [← hn] at this;exact this)
 have HR:=Hd hr;have HN:=Hd hn;have HT:=Hd hT
 have h0w:1 < w.heap.size:=World.block_lt_of_cell? w _ (hT 0 (by omega))
 obtain ⟨lo,hlo⟩:∃ lo,lo=w.heap.size:=⟨_,rfl⟩
 rw [← hlo] at h0w
 have HLo:=Hd hlo
 have HLen:=Hd (rest_len lv L L.length 0 (by omega) (by omega))
 obtain ⟨TS,hTS⟩:∃ TS,TS=restT lv L 0:=⟨_,rfl⟩
 rw [← hTS] at HLen ⊢
 have HTS:=Hd hTS
 have hl1:¬ lv < 1:=by omega
 clear hr hn hT hTS hlo
 go_enter Tryz.func51,Tryz.ntmps51
 go_wp2_with fail
 with_reducible refine (HNew.out _).mono ?_
 rintro e w1 ⟨Sk,W1,gh1,gb1,W2,gh2,gb2,hs1,bs1,hs2,bs2,rfl,hskb,hsk,hk1⟩
 rw [← HLo.out] at hskb
 obtain ⟨hi,hhi⟩:∃ hi,hi=w1.heap.size:=⟨_,rfl⟩
 rw [← hhi] at hskb
 have HSkb:=Hd hskb
 have HK1:=Hd hk1
 have HHi:=Hd hhi
 have hlh:lo≤hi:=by have:=hskb.b0;omega
 have HS0:Hid (SeekAt w1 lo hi Sk ao c W1 gh1 gb1 W2 gh2 gb2 L w1 0):=Hd ⟨Kept.refl _ _,0,Nat.le_refl _,hs1,bs1,hs2,bs2,by rw [Nat.zero_min,Nat.zero_min];exact hsk⟩
 have HT0:Hid (TkSt hi w1 none 0 0 []):=Hd (TkSt.start hi w1)
 have HD0:Hid ([]++restT lv L 0=TS):=Hd (by rw [HTS.out];rfl)
 clear hskb hsk hk1 hhi HNew
 go_wp2
 go_loopw [5,7,8,9,10,11,12] (fun v5 v7 v8 v9 v10 v11 v12 wr=>∃ (i nn dd:Nat) (kn:Bool) (a2:Option Addr) (m c2:Nat) (out:List Tk),v5 = .slice a2 m c2∧v7 = .int .i64 (nn:Int)∧v8 = .int .i64 (dd:Int)∧v9 = .bool kn∧v10 = .int .i64 (i:Int)∧i≤n∧m≤i∧Hid (kn=true→longN L i=(nn,dd))∧Hid (SeekAt w1 lo hi Sk ao c W1 gh1 gb1 W2 gh2 gb2 L wr i)∧Hid (TkSt hi wr a2 m c2 out)∧Hid (out++restT lv L i=TS)) (fun _ _ _ _ v10 _ _ _=>n - (intOf v10).toNat)
 case atStart=>exact ⟨0,0,0,false,none,0,0,[],rfl,rfl,rfl,rfl,rfl,by omega,by omega,Hd (fun h=>by cases h),HS0,HT0,HD0⟩
 case round=>
  obtain ⟨i,nn,dd,kn,a2,m,c2,out,rfl,rfl,rfl,rfl,rfl,hi2,hm,HKn,HS,HTk,HD⟩:=hrel
  by_cases hlt:i < n
  ·have hli:(i:Int) < (n:Int):=by omega
   obtain ⟨g,o,rfl,hg,hrd⟩:=HR.out (by have:=HN.out;omega)
   have hglo:g < lo:=by have:=HLo.out;omega
   have HRd:=Hd hrd
   -- a look from a place on
   have HSeek:Hid (∀ (W:World) (a:Nat),SeekAt w1 lo hi Sk (some ⟨g,o,none⟩) c W1 gh1 gb1 W2 gh2 gb2 L W a→a≤n→Calls Tryz.prog 87 #[.pointer (some ⟨Sk,0,none⟩),.int .i64 (a:Int)] W fun e w'=>e = .returned (.tuple #[.int .i64 ((longN L a).1:Int),.int .i64 ((longN L a).2:Int)])∧SeekAt w1 lo hi Sk (some ⟨g,o,none⟩) c W1 gh1 gb1 W2 gh2 gb2 L w' a∧Kept (InB lo hi) W w'):=Hd (fun W a hS ha=>by
    obtain ⟨hkW,nx,hnx,x1,y1,x2,y2,hst⟩:=hS
    have hkw:Kept (InB lo hi) w W:=HK1.out.dom.trans hkW
    refine (seek_any lo hi Sk g o c nx a W1 gh1 gb1 W2 gh2 gb2 L x1 y1 x2 y2 W HSkb.out (by have:=HN.out;omega) (by have:=HN.out;omega) hcm hst (hrd.keptS hkw (fun e=>by have:=e.1;omega)) hglo h0w (by rw [HHi.out];exact hkW.size) (HT.out.keptS hkw (fun e=>by have:=e.1;omega)) hnx (by have:=HN.out;omega)).mono ?_
    rintro e w' ⟨he,nx2,hnx2,hk2,hst2⟩
    exact ⟨he,⟨hkW.trans hk2,nx2,hnx2,hst2⟩,hk2⟩)
   have hbd:=long_bd L i (by have:=HN.out;omega)
   have hrs:=rest_step lv L i (by have:=HN.out;omega)
   have hby:=hrd i (by have:=HN.out;omega)
   rw [Nat.zero_add] at hby
   have HBy:Hid (∀ W,Kept (InB lo hi) w1 W→W.cell? ⟨g,o+i,none⟩=some (.int .u8 ((L.getD i 0).toNat:Int))):=Hd (fun W hk=>by
    have hc2:=HK1.out.cell hby
    exact (World.cell?_of_block (hk.block _ (World.block_lt_of_cell? w1 _ hc2) (fun e=>by have:=e.1;have h9:lo≤g:=this;omega))).trans hc2)
   obtain ⟨n1,hn1⟩:∃ n1,n1=(longN L i).1:=⟨_,rfl⟩
   obtain ⟨d1,hd1⟩:∃ d1,d1=(longN L i).2:=⟨_,rfl⟩
   have HN1:Hid (longN L i=(n1,d1)):=Hd (by rw [hn1,hd1])
   have HSk1:=Hd (fun W (hS:SeekAt w1 lo hi Sk (some ⟨g,o,none⟩) c W1 gh1 gb1 W2 gh2 gb2 L W i)=>by have:=HSeek.out W i hS hi2;rw [HN1.out] at this;exact this)
   rw [← hn1,← hd1] at hbd
   have HRs:=Hd hrs
   obtain ⟨x,hx⟩:∃ x:Int,x=((L.getD i 0).toNat:Int):=⟨_,rfl⟩
   rw [← hx] at HBy
   have HX:Hid (litT L i=⟨0,0,x⟩):=Hd (by rw [litT,hx])
   clear hrd hrs hby hn1 hd1 hx hg
   go_upto_if 24 with fail
   go_cut [7,8] from 24 to 30 (fun v7 v8 wx=>v7 = .int .i64 (n1:Int)∧v8 = .int .i64 (d1:Int)∧Hid (SeekAt w1 lo hi Sk (some ⟨g,o,none⟩) c W1 gh1 gb1 W2 gh2 gb2 L wx i)∧Hid (TkSt hi wx a2 m c2 out))
   case first=>
    cases kn with
    | true=>
     have hkk:=HKn.out (by trivial)
     rw [HN1.out] at hkk
     simp only [Prod.mk.injEq] at hkk
     obtain ⟨rfl,rfl⟩:=hkk
     go_wp2
     go_meet
     exact ⟨rfl,rfl,HS,HTk⟩
    | false=>
     have HC:=Hd (HSk1.out _ HS.out)
     go_wp2_with fail
     with_reducible refine HC.out.mono ?_
     rintro e w3 ⟨rfl,hs3,hk3⟩
     have HS3:=Hd hs3
     have HT3:=Hd (HTk.out.keptS hk3 (fun k hk e=>by have:=e.2;omega))
     clear hs3 hk3
     go_wp2
     go_meet
     exact ⟨rfl,rfl,HS3,HT3⟩
   case rest=>
   obtain ⟨rfl,rfl,HS3,HT3⟩:=hcut
   obtain ⟨w3,hw3⟩:∃ w3,w3=wc:=⟨_,rfl⟩
   rw [← hw3] at HS3 HT3 ⊢
   clear hw3 HKn HS HTk
   by_cases hA:0 < n1∧7≤lv
   ·obtain ⟨hA1,hA2⟩:=hA
    have hA1i:(0:Int) < (n1:Int):=by omega
    have hA1d:decide (7≤lv)=true:=decide_eq_true hA2
    have hc0:=HSeek.out w3 (i+1) (HS3.out.le (by omega)) (by omega)
    rw [show ((i+1:Nat):Int)=(i:Int)+1 by omega] at hc0
    have HC:=Hd hc0
    clear hc0
    obtain ⟨n2,hn2⟩:∃ n2,n2=(longN L (i+1)).1:=⟨_,rfl⟩
    obtain ⟨d2,hd2⟩:∃ d2,d2=(longN L (i+1)).2:=⟨_,rfl⟩
    have hbd2:=long_bd L (i+1) (by have:=HN.out;omega)
    rw [← hn2,← hd2] at hbd2 HC
    have HL2:Hid (longN L (i+1)=(n2,d2)):=Hd (by rw [hn2,hd2])
    have HLz:Hid (lazyN lv L i=if n1 < n2 then (0,0) else (n1,d1)):=Hd (by
     unfold lazyN
     rw [if_neg (show ¬ lv < 1 by omega),HN1.out,HL2.out]
     by_cases h:n1 < n2
     ·rw [if_pos ⟨hA2,hA1,h⟩,if_pos h]
     ·rw [if_neg (fun h2=>h h2.2.2),if_neg h])
    have hi1:(i:Int)+1=((i+1:Nat):Int):=by omega
    have HI1:=Hd hi1
    clear hn2 hd2 hi1
    go_wp2_with fail
    with_reducible refine HC.out.mono ?_
    rintro e w4 ⟨rfl,hs4,hk4⟩
    have HS4:=Hd hs4
    have HT4:=Hd (HT3.out.keptS hk4 (fun k hk e=>by have:=e.2;omega))
    clear hs4 hk4 hA2
    by_cases hlz:n1 < n2
    ·have hlzi:(n1:Int) < (n2:Int):=by omega
     have hby:=HBy.out w4 HS4.out.1
     have HD9:Hid ((out++[Tk.mk 0 0 x])++restT lv L (i+1)=TS):=Hd (by
      have h:=HD.out
      have hz:lazyN lv L i=(0,0):=by rw [HLz.out,if_pos hlz]
      rw [HRs.out,step_lit (by rw [hz]),HX.out] at h
      rw [← h];simp)
     have HK9:Hid (true=true→longN L (i+1)=(n2,d2)):=Hd (fun _=>HL2.out)
     clear hlz
     obtain ⟨q,hq⟩:∃ q,q=w4.heap.size:=⟨_,rfl⟩
     obtain ⟨wA,hwA⟩:∃ wA,wA=w4.alloc (.cells #[.int .i64 0,.int .i64 0,.int .u8 x] 101):=⟨_,rfl⟩
     have hkA:Kept NoB w4 wA:=by rw [hwA];exact (Kept.refl NoB _).alloc _
     have hA0:wA.cell? ⟨q,0,none⟩=some (.int .i64 (Tk.mk 0 0 x).l):=by rw [hwA];exact cell_new 0 hq
     have hA1:wA.cell? ⟨q,1,none⟩=some (.int .i64 (Tk.mk 0 0 x).d):=by rw [hwA];exact cell_new 1 hq
     have hA2:wA.cell? ⟨q,2,none⟩=some (.int .u8 (Tk.mk 0 0 x).c):=by rw [hwA];exact cell_new 2 hq
     have HA:=Hd (⟨hA0,hA1,hA2⟩:_∧_∧_)
     have HTA:=Hd (HT4.out.keptS hkA (fun _ _ h=>h))
     have HSA:=Hd (HS4.out.keptS HSkb.out hkA (fun _ _ h=>h) (fun _ _ h=>absurd h (fun h=>h)))
     have hsA:hi≤wA.heap.size:=by have h1:=HSA.out.1.size;have h2:=HHi.out;omega
     clear hkA hA0 hA1 hA2
     go_wp2_with (at_builtin;rw [← hq,← hwA];clear hwA hq;refine wpList_tk rfl (.tmp 47) (.tmp 53) rfl HTA.out hsA rfl q 1 (Tk.mk 0 0 x) rfl HA.out.1 HA.out.2.1 HA.out.2.2 (by omega) ?_)
     intro a9 c9 w9 h9 hk9
     have HT9:=Hd h9
     have HS9:=Hd (HSA.out.keptS HSkb.out hk9 (fun k hk e=>by have:=hk.2;omega) (fun k hk e=>by have:=HHi.out;omega))
     clear h9 hk9
     go_wp2
     go_roundw
     case rel=>exact ⟨i+1,n2,d2,true,a9,m+1,c9,_,rfl,rfl,rfl,rfl,by go_num,by omega,by omega,Hd (fun _=>HK9.out (by trivial)),Hd (HS9.out.le (by omega)),HT9,HD9⟩
     case measure=>simp [intOf] <;> omega
    ·have hlzi:¬ (n1:Int) < (n2:Int):=by omega
     have hn0:((n1:Int) == 0)=false:=by simp;omega
     have HD9:Hid ((out++[Tk.mk n1 d1 0])++restT lv L (i+n1)=TS):=Hd (by
      have h:=HD.out
      have hz:lazyN lv L i=(n1,d1):=by rw [HLz.out,if_neg hlz]
      rw [HRs.out,step_tok (by rw [hz];simp only;omega),hz] at h
      rw [← h];simp)
     clear hlz
     obtain ⟨q,hq⟩:∃ q,q=w4.heap.size:=⟨_,rfl⟩
     obtain ⟨wA,hwA⟩:∃ wA,wA=w4.alloc (.cells #[.int .i64 (n1:Int),.int .i64 (d1:Int),.int .u8 0] 101):=⟨_,rfl⟩
     have hkA:Kept NoB w4 wA:=by rw [hwA];exact (Kept.refl NoB _).alloc _
     have hA0:wA.cell? ⟨q,0,none⟩=some (.int .i64 (Tk.mk n1 d1 0).l):=by rw [hwA];exact cell_new 0 hq
     have hA1:wA.cell? ⟨q,1,none⟩=some (.int .i64 (Tk.mk n1 d1 0).d):=by rw [hwA];exact cell_new 1 hq
     have hA2:wA.cell? ⟨q,2,none⟩=some (.int .u8 (Tk.mk n1 d1 0).c):=by rw [hwA];exact cell_new 2 hq
     have HA:=Hd (⟨hA0,hA1,hA2⟩:_∧_∧_)
     have HTA:=Hd (HT4.out.keptS hkA (fun _ _ h=>h))
     have HSA:=Hd (HS4.out.keptS HSkb.out hkA (fun _ _ h=>h) (fun _ _ h=>absurd h (fun h=>h)))
     have hsA:hi≤wA.heap.size:=by have h1:=HSA.out.1.size;have h2:=HHi.out;omega
     clear hkA hA0 hA1 hA2
     go_wp2_with (at_builtin;rw [← hq,← hwA];clear hwA hq;refine wpList_tk rfl (.tmp 71) (.tmp 75) rfl HTA.out hsA rfl q 1 (Tk.mk n1 d1 0) rfl HA.out.1 HA.out.2.1 HA.out.2.2 (by omega) ?_)
     intro a9 c9 w9 h9 hk9
     have HT9:=Hd h9
     have HS9:=Hd (HSA.out.keptS HSkb.out hk9 (fun k hk e=>by have:=hk.2;omega) (fun k hk e=>by have:=HHi.out;omega))
     clear h9 hk9
     go_wp2
     go_roundw
     case rel=>exact ⟨i+n1,n1,d1,false,a9,m+1,c9,_,rfl,rfl,rfl,rfl,by go_num,(by have:=HN.out;omega),by omega,Hd (fun h=>by cases h),Hd (HS9.out.le (by omega)),HT9,HD9⟩
     case measure=>simp [intOf] <;> omega
   ·have HLz:Hid (lazyN lv L i=(n1,d1)):=Hd (by
     unfold lazyN
     rw [if_neg (show ¬ lv < 1 by omega),HN1.out]
     by_cases h:n1=0
     ·rw [if_neg (fun h2=>by have:=h2.2.1;simp only at this;omega)]
     ·rw [if_neg (fun h2=>hA ⟨by omega,h2.1⟩)])
    by_cases h0:n1=0
    ·have hA1i:¬ (0:Int) < (n1:Int):=by omega
     have hn0:((n1:Int) == 0)=true:=by rw [h0];rfl
     have hby:=HBy.out w3 HS3.out.1
     have HD9:Hid ((out++[Tk.mk 0 0 x])++restT lv L (i+1)=TS):=Hd (by
      have h:=HD.out
      rw [HRs.out,step_lit (by rw [HLz.out];exact h0),HX.out] at h
      rw [← h];simp)
     have HK9:Hid (false=true→longN L (i+1)=(n1,d1)):=Hd (fun h=>by cases h)
     clear h0 hA
     obtain ⟨q,hq⟩:∃ q,q=w3.heap.size:=⟨_,rfl⟩
     obtain ⟨wA,hwA⟩:∃ wA,wA=w3.alloc (.cells #[.int .i64 0,.int .i64 0,.int .u8 x] 101):=⟨_,rfl⟩
     have hkA:Kept NoB w3 wA:=by rw [hwA];exact (Kept.refl NoB _).alloc _
     have hA0:wA.cell? ⟨q,0,none⟩=some (.int .i64 (Tk.mk 0 0 x).l):=by rw [hwA];exact cell_new 0 hq
     have hA1:wA.cell? ⟨q,1,none⟩=some (.int .i64 (Tk.mk 0 0 x).d):=by rw [hwA];exact cell_new 1 hq
     have hA2:wA.cell? ⟨q,2,none⟩=some (.int .u8 (Tk.mk 0 0 x).c):=by rw [hwA];exact cell_new 2 hq
     have HA:=Hd (⟨hA0,hA1,hA2⟩:_∧_∧_)
     have HTA:=Hd (HT3.out.keptS hkA (fun _ _ h=>h))
     have HSA:=Hd (HS3.out.keptS HSkb.out hkA (fun _ _ h=>h) (fun _ _ h=>absurd h (fun h=>h)))
     have hsA:hi≤wA.heap.size:=by have h1:=HSA.out.1.size;have h2:=HHi.out;omega
     clear hkA hA0 hA1 hA2
     go_wp2_with (at_builtin;rw [← hq,← hwA];clear hwA hq;refine wpList_tk rfl (.tmp 61) (.tmp 67) rfl HTA.out hsA rfl q 1 (Tk.mk 0 0 x) rfl HA.out.1 HA.out.2.1 HA.out.2.2 (by omega) ?_)
     intro a9 c9 w9 h9 hk9
     have HT9:=Hd h9
     have HS9:=Hd (HSA.out.keptS HSkb.out hk9 (fun k hk e=>by have:=hk.2;omega) (fun k hk e=>by have:=HHi.out;omega))
     clear h9 hk9
     go_wp2
     go_roundw
     case rel=>exact ⟨i+1,n1,d1,false,a9,m+1,c9,_,rfl,rfl,rfl,rfl,by go_num,by omega,by omega,HK9,Hd (HS9.out.le (by omega)),HT9,HD9⟩
     case measure=>simp [intOf] <;> omega
    ·have hn0:((n1:Int) == 0)=false:=by simp;omega
     have hA1i:(0:Int) < (n1:Int):=by omega
     have hA2:¬ 7≤lv:=fun h=>hA ⟨by omega,h⟩
     have hA2d:decide (7≤lv)=false:=decide_eq_false hA2
     have HD9:Hid ((out++[Tk.mk n1 d1 0])++restT lv L (i+n1)=TS):=Hd (by
      have h:=HD.out
      rw [HRs.out,step_tok (by rw [HLz.out];exact h0),HLz.out] at h
      rw [← h];simp)
     clear h0 hA
     obtain ⟨q,hq⟩:∃ q,q=w3.heap.size:=⟨_,rfl⟩
     obtain ⟨wA,hwA⟩:∃ wA,wA=w3.alloc (.cells #[.int .i64 (n1:Int),.int .i64 (d1:Int),.int .u8 0] 101):=⟨_,rfl⟩
     have hkA:Kept NoB w3 wA:=by rw [hwA];exact (Kept.refl NoB _).alloc _
     have hA0:wA.cell? ⟨q,0,none⟩=some (.int .i64 (Tk.mk n1 d1 0).l):=by rw [hwA];exact cell_new 0 hq
     have hA1:wA.cell? ⟨q,1,none⟩=some (.int .i64 (Tk.mk n1 d1 0).d):=by rw [hwA];exact cell_new 1 hq
     have hA2:wA.cell? ⟨q,2,none⟩=some (.int .u8 (Tk.mk n1 d1 0).c):=by rw [hwA];exact cell_new 2 hq
     have HA:=Hd (⟨hA0,hA1,hA2⟩:_∧_∧_)
     have HTA:=Hd (HT3.out.keptS hkA (fun _ _ h=>h))
     have HSA:=Hd (HS3.out.keptS HSkb.out hkA (fun _ _ h=>h) (fun _ _ h=>absurd h (fun h=>h)))
     have hsA:hi≤wA.heap.size:=by have h1:=HSA.out.1.size;have h2:=HHi.out;omega
     clear hkA hA0 hA1 hA2
     go_wp2_with (at_builtin;rw [← hq,← hwA];clear hwA hq;refine wpList_tk rfl (.tmp 71) (.tmp 75) rfl HTA.out hsA rfl q 1 (Tk.mk n1 d1 0) rfl HA.out.1 HA.out.2.1 HA.out.2.2 (by omega) ?_)
     intro a9 c9 w9 h9 hk9
     have HT9:=Hd h9
     have HS9:=Hd (HSA.out.keptS HSkb.out hk9 (fun k hk e=>by have:=hk.2;omega) (fun k hk e=>by have:=HHi.out;omega))
     clear h9 hk9
     go_wp2
     go_roundw
     case rel=>exact ⟨i+n1,n1,d1,false,a9,m+1,c9,_,rfl,rfl,rfl,rfl,by go_num,(by have:=HN.out;omega),by omega,Hd (fun h=>by cases h),Hd (HS9.out.le (by omega)),HT9,HD9⟩
     case measure=>simp [intOf] <;> omega
  ·have hie:i=n:=by omega
   have HF:Hid (out=TS):=Hd (by
    have h:=HD.out
    rw [rest_end lv L i (by have:=HN.out;omega),List.append_nil] at h
    exact h)
   have hli:¬ (i:Int) < (n:Int):=by omega
   clear hie
   go_wp2
   go_ret
   have hml:=HTk.out.len
   rw [HF.out] at hml
   subst hml
   refine ⟨a2,c2,rfl,?_,(by
    have h1:Kept (InB lo hi) w wr:=HK1.out.dom.trans HS.out.1
    exact h1.mono (fun k hk e=>by have:=e.1;have:=HLo.out;omega))⟩
   have:=HTk.out
   rw [HF.out] at this
   exact ⟨this.len,this.own,fun k hk=>by have:=this.fresh k hk;have:=HLo.out;omega⟩

/-! ## One byte over and over, on paper -/
end Go.Proofs.YtfmjfgmbjdhogaaGreatDoor
