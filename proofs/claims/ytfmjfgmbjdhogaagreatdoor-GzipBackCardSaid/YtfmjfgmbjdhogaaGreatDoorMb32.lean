import Derived.Test.YtfmjfgmbjdhogaaGreatDoorMb31
set_option linter.unusedVariables false
set_option linter.unusedSimpArgs false
set_option maxRecDepth 20000
set_option maxHeartbeats 8000000
namespace Go.Proofs.YtfmjfgmbjdhogaaGreatDoor
open Go.RowKit
theorem Kept.cellS {S:Nat→Prop}{w w':World}(hk:Kept S w w'){a:Addr}{v:Value}(h:w.cell? a=some v)(hne:¬ S a.block):w'.cell? a=some v:=
 (World.cell?_of_block (hk.block _ (World.block_lt_of_cell? w a h) hne)).trans h
theorem twoB_in {lo hi a b:Nat}(ha:lo≤a∧a < hi)(hb:lo≤b∧b < hi):∀ k,TwoB a b k→InB lo hi k:=fun k h=>by
 rcases h with rfl | rfl
 ·exact ha
 ·exact hb
theorem SeekSt.add1 {w w':World}{lo hi Sk:Nat}{ao:Option Addr}{c next na1 na2 W1 gh1 gb1 W2 gh2 gb2:Nat}{L:List UInt8}{hs1 bs1 hs2 bs2:List Int}(h:SeekSt w Sk ao c next na1 na2 W1 gh1 gb1 W2 gh2 gb2 L hs1 bs1 hs2 bs2)(hb:SkB lo hi Sk W1 gh1 gb1 W2 gh2 gb2)
  (hk:Kept (TwoB gh1 gb1) w w') (p1:PlcAt w' gh1 (hs1.set (slotK W1 L 3 na1) (na1:Int))) (p2:PlcAt w' gb1 (bs1.set na1 (hs1.getD (slotK W1 L 3 na1) 0))) (hn:na1 < L.length):
  SeekSt w' Sk ao c next (na1+1) na2 W1 gh1 gb1 W2 gh2 gb2 L (hs1.set (slotK W1 L 3 na1) (na1:Int)) (bs1.set na1 (hs1.getD (slotK W1 L 3 na1) 0)) hs2 bs2:=
 ⟨hk.obj h.obj (fun e=>by rcases e with e | e;exact hb.n01 e;exact hb.n02 e),p1,p2,h.h2.keptS hk (fun e=>by rcases e with e | e;exact hb.n13 e.symm;exact hb.n23 e.symm),h.r2.keptS hk (fun e=>by rcases e with e | e;exact hb.n14 e.symm;exact hb.n24 e.symm),by simp [h.l1],h.l2,
  h.c1.add (by rw [h.l1];exact hn) (slot_lt W1 _ (by have:=hb.w1;omega)),h.c2⟩
theorem SeekSt.add2 {w w':World}{lo hi Sk:Nat}{ao:Option Addr}{c next na1 na2 W1 gh1 gb1 W2 gh2 gb2:Nat}{L:List UInt8}{hs1 bs1 hs2 bs2:List Int}(h:SeekSt w Sk ao c next na1 na2 W1 gh1 gb1 W2 gh2 gb2 L hs1 bs1 hs2 bs2)(hb:SkB lo hi Sk W1 gh1 gb1 W2 gh2 gb2)
  (hk:Kept (TwoB gh2 gb2) w w') (p1:PlcAt w' gh2 (hs2.set (slotK W2 L 8 na2) (na2:Int))) (p2:PlcAt w' gb2 (bs2.set na2 (hs2.getD (slotK W2 L 8 na2) 0))) (hn:na2 < L.length):
  SeekSt w' Sk ao c next na1 (na2+1) W1 gh1 gb1 W2 gh2 gb2 L hs1 bs1 (hs2.set (slotK W2 L 8 na2) (na2:Int)) (bs2.set na2 (hs2.getD (slotK W2 L 8 na2) 0)):=
 ⟨hk.obj h.obj (fun e=>by rcases e with e | e;exact hb.n03 e;exact hb.n04 e),h.h1.keptS hk (fun e=>by rcases e with e | e;exact hb.n13 e;exact hb.n14 e),h.r1.keptS hk (fun e=>by rcases e with e | e;exact hb.n23 e;exact hb.n24 e),p1,p2,h.l1,by simp [h.l2],
  h.c1,h.c2.add (by rw [h.l2];exact hn) (slot_lt W2 _ (by have:=hb.w2;omega))⟩
theorem SeekSt.nextSet {w:World}{lo hi Sk:Nat}{ao:Option Addr}{c next na1 na2 W1 gh1 gb1 W2 gh2 gb2:Nat}{L:List UInt8}{hs1 bs1 hs2 bs2:List Int}(h:SeekSt w Sk ao c next na1 na2 W1 gh1 gb1 W2 gh2 gb2 L hs1 bs1 hs2 bs2)(hb:SkB lo hi Sk W1 gh1 gb1 W2 gh2 gb2)(m:Nat):
  SeekSt (w.setCell ⟨Sk,1,none⟩ (.int .i64 (m:Int))) Sk ao c m na1 na2 W1 gh1 gb1 W2 gh2 gb2 L hs1 bs1 hs2 bs2:=
 ⟨obj_set h.obj 1 _,h.h1.other hb.n01 _ _,h.r1.other hb.n02 _ _,h.h2.other hb.n03 _ _,h.r2.other hb.n04 _ _,h.l1,h.l2,h.c1,h.c2⟩
def SeekR (w:World)(lo hi Sk:Nat)(ao:Option Addr)(c W1 gh1 gb1 W2 gh2 gb2:Nat)(L:List UInt8)(w':World)(next:Nat):Prop:=
 Kept (InB lo hi) w w'∧∃ hs1 bs1 hs2 bs2,SeekSt w' Sk ao c next (min next (L.length - 2)) (min next (L.length - 7)) W1 gh1 gb1 W2 gh2 gb2 L hs1 bs1 hs2 bs2
theorem key_lt64 (L:List UInt8)(k p:Nat)(h:k≤8):keyN L k p < 18446744073709551616:=Nat.lt_of_lt_of_le (key_lt L k p) (by
 have:256 ^ k≤256 ^ 8:=Nat.pow_le_pow_right (by omega) h
 omega)
set_option maxRecDepth 100000 in
theorem addup_any (lo hi Sk g o c next a W1 gh1 gb1 W2 gh2 gb2:Nat)(L:List UInt8)(hs1 bs1 hs2 bs2:List Int)(w:World)(hb:SkB lo hi Sk W1 gh1 gb1 W2 gh2 gb2)(hn:L.length≤32768)(hc:L.length≤c)(hcm:c≤9223372036854775807)
  (hS:SeekSt w Sk (some ⟨g,o,none⟩) c next (min next (L.length - 2)) (min next (L.length - 7)) W1 gh1 gb1 W2 gh2 gb2 L hs1 bs1 hs2 bs2) (hr:RdB w g o L 0 L.length) (hg:g < lo) (hna:next≤a) (ha:a≤L.length):
  Calls Tryz.prog 115 #[.pointer (some ⟨Sk,0,none⟩),.int .i64 (a:Int)] w fun e w'=>e = .returned (.tuple #[])∧SeekR w lo hi Sk (some ⟨g,o,none⟩) c W1 gh1 gb1 W2 gh2 gb2 L w' a:=by
 obtain ⟨n,hn'⟩:∃ n,n=L.length:=⟨_,rfl⟩
 have HNn:=Hd hn'
 have HS0:=Hd hS;have HR0:=Hd hr;have HB:=Hd hb
 rw [← hn'] at hn hc ha
 clear hS hr hb hn'
 go_enter Tryz.func115,Tryz.ntmps115
 go_wp2
 go_loopw [4] (fun v4 wr=>∃ nx hs1 bs1 hs2 bs2,next≤nx∧nx≤a∧Hid (SeekSt wr Sk (some ⟨g,o,none⟩) c nx (min nx (L.length - 2)) (min nx (L.length - 7)) W1 gh1 gb1 W2 gh2 gb2 L hs1 bs1 hs2 bs2)∧Hid (Kept (InB lo hi) w wr)) (fun _ wr=>match wr.cell? ⟨Sk,1,none⟩ with | some (.int _ k)=>((a:Int) - k).toNat | _=>0)
 case atStart=>exact ⟨next,hs1,bs1,hs2,bs2,by omega,hna,HS0,Hd (Kept.refl _ _)⟩
 case round=>
  obtain ⟨nx,hs1,bs1,hs2,bs2,hx1,hx2,HS,HK⟩:=hrel
  obtain ⟨c0,c1,ch1,ch2⟩:=HS.out.cells
  rw [← HNn.out] at c0
  by_cases hlt:nx < a
  ·have hli:(nx:Int) < (a:Int):=by omega
   obtain ⟨lf,hlf⟩:∃ lf:Nat,lf=n - nx:=⟨_,rfl⟩
   have hlfi:(n:Int) - (nx:Int)=(lf:Int):=by omega
   have hlfb:lf≤32768∧1≤lf:=by omega
   have HLf:=Hd hlf
   have hlfw:IntKind.i64.wrap (lf:Int)=(lf:Int):=IntWalk.i64_in _ (by omega)
   clear hlf
   go_upto_block 1 with fail
   go_cut [4] from 18 to 63 (fun v4 wx=>∃ hs1 bs1 hs2 bs2,Hid (SeekSt wx Sk (some ⟨g,o,none⟩) c nx (min (nx+1) (L.length - 2)) (min (nx+1) (L.length - 7)) W1 gh1 gb1 W2 gh2 gb2 L hs1 bs1 hs2 bs2)∧Hid (Kept (InB lo hi) w wx))
   case first=>
    go_upto_region 2 with fail
    go_quiet (fail)
    have HK1:=Hd (HK.out.drewN nq)
    have HS1:=Hd (HS.out.keptS HB.out ((Kept.refl NoB wr).drewN nq) (fun _ _ h=>h))
    obtain ⟨wa,hwa⟩:∃ wa,wa=wr.drewN nq:=⟨_,rfl⟩
    rw [← hwa] at HK1 HS1 ⊢
    clear hwa c0 c1 ch1 ch2
    go_upto_if 29 with fail
    go_cut [29] from 29 to 43 (fun v29 wx=>∃ hs1 bs1,Hid (SeekSt wx Sk (some ⟨g,o,none⟩) c nx (min (nx+1) (L.length - 2)) (min nx (L.length - 7)) W1 gh1 gb1 W2 gh2 gb2 L hs1 bs1 hs2 bs2)∧Hid (Kept (InB lo hi) w wx))
    case first=>
     by_cases h3:3≤lf
     ·have h3i:(3:Int)≤(lf:Int):=by omega
      have hl:=HLf.out;have hnl:=HNn.out
      have hmin:min nx (L.length - 2)=nx:=by omega
      have hmin2:min (nx+1) (L.length - 2)=nx+1:=by omega
      have HS2:Hid (SeekSt wa Sk (some ⟨g,o,none⟩) c nx nx (min nx (L.length - 7)) W1 gh1 gb1 W2 gh2 gb2 L hs1 bs1 hs2 bs2):=Hd (by have:=HS1.out;rw [hmin] at this;exact this)
      obtain ⟨d0,d1,ch1,ch2⟩:=HS2.out.cells
      rw [← hnl] at d0
      have hpb:=prev_bd (slotK W1 L 3) (slotK W1 L 3 nx) nx
      have hhd:=HS2.out.c1.head (slotK W1 L 3 nx) (slot_lt W1 _ (by have:=HB.out.w1;omega))
      have HSk:=Hd (fun W (hk:Kept NoB wa W)=>shortkey_any Sk g o n c nx L W (hk.cell d0) (by rw [hnl];exact (HR0.out.keptS HK1.out (fun e=>by have:=e.1;omega)).keptS hk (fun h=>h)) hnl (by omega) (by omega))
      have HAd:=Hd (fun W (hk:Kept NoB wa W)=>add_any Sk 2 W1 gh1 gb1 n nx (keyN L 3 nx) hs1 bs1 W HB.out.w1 (key_lt64 L 3 nx (by omega)) (by rw [hnl];exact ch1.keptS hk (fun h=>h)) (HS2.out.h1.keptS hk (fun h=>h)) (HS2.out.r1.keptS hk (fun h=>h)) HS2.out.c1.len (by rw [HS2.out.l1,hnl]) hn (by omega) HB.out.n12 (Ne.symm HB.out.n01) (Ne.symm HB.out.n02) (by
       have e:hs1.getD (slotN W1 (keyN L 3 nx)) 0=prevN (slotK W1 L 3) (slotK W1 L 3 nx) nx:=hhd
       rw [e];omega))
      obtain ⟨key,hkey⟩:∃ key,key=keyN L 3 nx:=⟨_,rfl⟩
      have g1:∀ W,Kept (TwoB gh1 gb1) wa W→W.cell? ⟨Sk,1,none⟩=some (.int .i64 (nx:Int)):=fun W hk=>hk.cellS d1 (fun e=>by rcases e with e | e;exact HB.out.n01 e;exact HB.out.n02 e)
      have g0:=g1
      have HFin:=Hd (fun W W' (hk:Kept NoB wa W) (h2:Kept (TwoB gh1 gb1) W W') (p1:PlcAt W' gh1 (hs1.set (slotN W1 key) (nx:Int))) (p2:PlcAt W' gb1 (bs1.set nx (hs1.getD (slotN W1 key) 0)))=>(⟨by
       have h:=(HS2.out.keptS HB.out hk (fun _ _ h=>h)).add1 HB.out h2 (by rw [hkey] at p1;exact p1) (by rw [hkey] at p2;exact p2) (by omega)
       rw [hmin2];exact h,(HK1.out.trans hk.dom).trans (h2.mono (fun k _ e=>twoB_in HB.out.b1 HB.out.b2 k e))⟩:SeekSt W' Sk (some ⟨g,o,none⟩) c nx (min (nx+1) (L.length - 2)) (min nx (L.length - 7)) W1 gh1 gb1 W2 gh2 gb2 L (hs1.set (slotN W1 (keyN L 3 nx)) (nx:Int)) (bs1.set nx (hs1.getD (slotN W1 (keyN L 3 nx)) 0)) hs2 bs2∧Kept (InB lo hi) w W'))
      rw [← hkey] at HSk HAd HFin
      have hk0:=Kept.refl NoB wa
      clear hl hnl hmin hmin2 d0 d1 ch1 ch2 hpb hhd hkey h3
      go_wp2_with fail
      refine wp_region_noPanic ?_
      refine wp_region_held_drew (S:=fun W=>Kept (TwoB gh1 gb1) wa W) (by kernel_rfl) (Kept.drew (Kept.refl _ _)) (fun hHeld=>?_)
      obtain ⟨wd,hwd⟩:∃ x,x=wa.drew:=⟨_,rfl⟩
      have hkd:Kept NoB wa wd:=by rw [hwd];exact Kept.drew (Kept.refl _ _)
      rw [← hwd] at hHeld ⊢
      clear hwd
      refine wpAnyH_take (i:=0) (v:=?_) (by rw [List.getElem?_toArray];rfl) (by kernel_rfl) (by kernel_rfl) (by kernel_rfl) (fun _ _ _ h=>h) (Or.inl ⟨by rfl,?hyq1_⟩) (by assumption) ?restq1_
      case hyq1_=>(intro w hSw;(try dsimp only at hSw);(try have e1:=g1 w hSw);(try have e0:=g0 w hSw);go_simp;(try with_reducible rfl))
      try simp only [Act.put,List.setIfInBounds_toArray,List.set_cons_zero,List.set_cons_succ]
      refine wpAnyH_take (i:=1) (v:=?_) (by rw [List.getElem?_toArray];rfl) (by kernel_rfl) (by kernel_rfl) (by kernel_rfl) (fun _ _ _ h=>h) (Or.inl ⟨by rfl,?hyq2_⟩) (by assumption) ?restq2_
      case hyq2_=>(intro w hSw;(try dsimp only at hSw);(try have e1:=g1 w hSw);(try have e0:=g0 w hSw);go_simp;(try with_reducible rfl))
      try simp only [Act.put,List.setIfInBounds_toArray,List.set_cons_zero,List.set_cons_succ]
      refine wpAnyH_take (i:=2) (v:=?_) (by rw [List.getElem?_toArray];rfl) (by kernel_rfl) (by kernel_rfl) (by kernel_rfl) (fun _ _ _ h=>h) (Or.inl ⟨by rfl,?hyq3_⟩) (by assumption) ?restq3_
      case hyq3_=>(intro w hSw;(try dsimp only at hSw);(try have e1:=g1 w hSw);(try have e0:=g0 w hSw);go_simp;(try with_reducible rfl))
      try simp only [Act.put,List.setIfInBounds_toArray,List.set_cons_zero,List.set_cons_succ]
      refine wpAnyH_take (i:=3) (v:=?_) (by rw [List.getElem?_toArray];rfl) (by kernel_rfl) (by kernel_rfl) (by kernel_rfl) (fun _ _ _ h=>h) (Or.inl ⟨by rfl,?hyq4_⟩) (by assumption) ?restq4_
      case hyq4_=>(intro w hSw;(try dsimp only at hSw);(try have e1:=g1 w hSw);(try have e0:=g0 w hSw);go_simp;(try with_reducible rfl))
      try simp only [Act.put,List.setIfInBounds_toArray,List.set_cons_zero,List.set_cons_succ]
      refine wpAnyH_take (i:=4) (v:=?_) (by rw [List.getElem?_toArray];rfl) (by kernel_rfl) (by kernel_rfl) (by kernel_rfl) (fun _ _ _ h=>h) (Or.inl ⟨by rfl,?hyq5_⟩) (by assumption) ?restq5_
      case hyq5_=>(intro w hSw;(try dsimp only at hSw);(try have e1:=g1 w hSw);(try have e0:=g0 w hSw);go_simp;(try with_reducible rfl))
      try simp only [Act.put,List.setIfInBounds_toArray,List.set_cons_zero,List.set_cons_succ]
      refine wpAnyH_take (i:=5) (v:=?_) (by rw [List.getElem?_toArray];rfl) (by kernel_rfl) (by kernel_rfl) (by kernel_rfl) (fun _ _ _ h=>h) (Or.inl ⟨by rfl,?hyq6_⟩) (by assumption) ?restq6_
      case hyq6_=>(intro w hSw;(try dsimp only at hSw);(try have e1:=g1 w hSw);(try have e0:=g0 w hSw);go_simp;(try with_reducible rfl))
      try simp only [Act.put,List.setIfInBounds_toArray,List.set_cons_zero,List.set_cons_succ]
      refine wpAnyH_take (i:=6) (v:=?_) (by rw [List.getElem?_toArray];rfl) (by kernel_rfl) (by kernel_rfl) (by kernel_rfl) (fun _ _ _ h=>h) (Or.inl ⟨by rfl,?hyq7_⟩) (by assumption) ?restq7_
      case hyq7_=>(intro w hSw;(try dsimp only at hSw);(try have e1:=g1 w hSw);(try have e0:=g0 w hSw);go_simp;(try with_reducible rfl))
      try simp only [Act.put,List.setIfInBounds_toArray,List.set_cons_zero,List.set_cons_succ]
      refine wpAnyH_take (i:=7) (v:=?_) (by rw [List.getElem?_toArray];rfl) (by kernel_rfl) (by kernel_rfl) (by kernel_rfl) (fun _ _ _ h=>h) (Or.inl ⟨by rfl,?hyq8_⟩) (by assumption) ?restq8_
      case hyq8_=>(intro w hSw;(try dsimp only at hSw);(try have e1:=g1 w hSw);(try have e0:=g0 w hSw);go_simp;(try with_reducible rfl))
      try simp only [Act.put,List.setIfInBounds_toArray,List.set_cons_zero,List.set_cons_succ]
      refine wpAnyH_take (i:=8) (v:=?_) (by rw [List.getElem?_toArray];rfl) (by kernel_rfl) (by kernel_rfl) (by kernel_rfl) (fun _ _ _ h=>h) (Or.inl ⟨by rfl,?hyq9_⟩) (by assumption) ?restq9_
      case hyq9_=>(intro w hSw;(try dsimp only at hSw);(try have e1:=g1 w hSw);(try have e0:=g0 w hSw);go_simp;(try with_reducible rfl))
      try simp only [Act.put,List.setIfInBounds_toArray,List.set_cons_zero,List.set_cons_succ]
      refine wpAnyH_take (i:=9) (v:=?_) (by rw [List.getElem?_toArray];rfl) (by kernel_rfl) (by kernel_rfl) (by kernel_rfl) (fun _ _ _ h=>h) (Or.inl ⟨by rfl,?hyq10_⟩) (by assumption) ?restq10_
      case hyq10_=>(intro w hSw;(try dsimp only at hSw);(try have e1:=g1 w hSw);(try have e0:=g0 w hSw);go_simp;(try with_reducible rfl))
      try simp only [Act.put,List.setIfInBounds_toArray,List.set_cons_zero,List.set_cons_succ]
      refine wpAnyH_take (i:=10) (v:=?_) (by rw [List.getElem?_toArray];rfl) (by kernel_rfl) (by kernel_rfl) (by kernel_rfl) (fun _ _ _ h=>h) (Or.inl ⟨by rfl,?hyq11_⟩) (by assumption) ?restq11_
      case hyq11_=>(intro w hSw;(try dsimp only at hSw);(try have e1:=g1 w hSw);(try have e0:=g0 w hSw);go_simp;(try with_reducible rfl))
      try simp only [Act.put,List.setIfInBounds_toArray,List.set_cons_zero,List.set_cons_succ]
      refine wpAnyH_take (i:=11) (v:=?_) (by rw [List.getElem?_toArray];rfl) (by kernel_rfl) (by kernel_rfl) (by kernel_rfl) (fun _ _ _ h=>h) (Or.inl ⟨by rfl,?hyq12_⟩) (by assumption) ?restq12_
      case hyq12_=>(intro w hSw;(try dsimp only at hSw);(try have e1:=g1 w hSw);(try have e0:=g0 w hSw);go_simp;(try with_reducible rfl))
      try simp only [Act.put,List.setIfInBounds_toArray,List.set_cons_zero,List.set_cons_succ]
      refine wpAnyH_ready (rs:=[12]) (by kernel_rfl) (by simp) ?_
      refine AllReadyH.cons (by rw [List.getElem?_toArray];rfl) (fun K hK=>?_) AllReadyH.nil
      go_simp
      go_at_call 120
      (with_reducible refine (HSk.out wd hkd).mono ?_)
      rintro e wn ⟨rfl,hkn⟩
      have hSn:=hHeld.trans (hkn.dom:Kept (TwoB gh1 gb1) wd wn)
      have hkN:Kept NoB wa wn:=hkd.trans hkn
      go_wp2_with fail
      refine hK.out _ _ hSn (fun hHeld=>?_)
      clear hK K hSn
      try simp only [Act.put,List.setIfInBounds_toArray,List.set_cons_zero,List.set_cons_succ]
      refine wpAnyH_ready (rs:=[13]) (by kernel_rfl) (by simp) ?_
      refine AllReadyH.cons (by rw [List.getElem?_toArray];rfl) (fun K hK=>?_) AllReadyH.nil
      go_simp
      go_at_call 139
      (with_reducible refine (HAd.out wn hkN).mono ?_)
      rintro e wm ⟨rfl,hkm,hp1,hp2⟩
      have HF:=Hd (HFin.out wn wm hkN hkm hp1 hp2)
      have hSn:=hHeld.trans hkm
      go_wp2_with fail
      refine hK.out _ _ hSn (fun hHeld=>?_)
      clear hK K hSn
      try simp only [Act.put,List.setIfInBounds_toArray,List.set_cons_zero,List.set_cons_succ]
      refine wpAnyH_done (by kernel_rfl) ?_ _
      refine NoPanic.normal ?_
      clear hHeld hkd hkN hkn hkm hp1 hp2 hk0 g1
      go_wp2
      go_meet
      exact ⟨_,_,Hd HF.out.1,Hd HF.out.2⟩
     ·have h3i:¬ (3:Int)≤(lf:Int):=by omega
      have HS2:Hid (SeekSt wa Sk (some ⟨g,o,none⟩) c nx (min (nx+1) (L.length - 2)) (min nx (L.length - 7)) W1 gh1 gb1 W2 gh2 gb2 L hs1 bs1 hs2 bs2):=Hd (by
       have h:=HS1.out
       have hl:=HLf.out;have hnl:=HNn.out
       rw [show min (nx+1) (L.length - 2)=min nx (L.length - 2) by omega]
       exact h)
      go_wp2
      go_meet
      exact ⟨hs1,bs1,HS2,HK1⟩
    case rest=>
    obtain ⟨hs1,bs1,HS1,HK1⟩:=hcut
    obtain ⟨wb,hwb⟩:∃ wb,wb=wc:=⟨_,rfl⟩
    rw [← hwb] at HS1 HK1 ⊢
    clear hwb
    focus
     by_cases h3:8≤lf
     ·have h3i:(8:Int)≤(lf:Int):=by omega
      have hl:=HLf.out;have hnl:=HNn.out
      have hmin:min nx (L.length - 7)=nx:=by omega
      have hmin2:min (nx+1) (L.length - 7)=nx+1:=by omega
      have HS2:Hid (SeekSt wb Sk (some ⟨g,o,none⟩) c nx (min (nx+1) (L.length - 2)) nx W1 gh1 gb1 W2 gh2 gb2 L hs1 bs1 hs2 bs2):=Hd (by have:=HS1.out;rw [hmin] at this;exact this)
      obtain ⟨d0,d1,ch1,ch2⟩:=HS2.out.cells
      rw [← hnl] at d0
      have hpb:=prev_bd (slotK W2 L 8) (slotK W2 L 8 nx) nx
      have hhd:=HS2.out.c2.head (slotK W2 L 8 nx) (slot_lt W2 _ (by have:=HB.out.w2;omega))
      have HSk:=Hd (fun W (hk:Kept NoB wb W)=>word_any g (o+nx) (n - nx) (c - nx) nx L W (by have:=(((HR0.out.keptS HK1.out (fun e=>by have:=e.1;omega)).keptS hk (fun h=>h)).drop nx);rw [Nat.zero_add,← hnl] at this;exact this) (by omega) (by omega) (by omega))
      have HAd:=Hd (fun W (hk:Kept NoB wb W)=>add_any Sk 5 W2 gh2 gb2 n nx (keyN L 8 nx) hs2 bs2 W HB.out.w2 (key_lt64 L 8 nx (by omega)) (by rw [hnl];exact ch2.keptS hk (fun h=>h)) (HS2.out.h2.keptS hk (fun h=>h)) (HS2.out.r2.keptS hk (fun h=>h)) HS2.out.c2.len (by rw [HS2.out.l2,hnl]) hn (by omega) HB.out.n34 (Ne.symm HB.out.n03) (Ne.symm HB.out.n04) (by
       have e:hs2.getD (slotN W2 (keyN L 8 nx)) 0=prevN (slotK W2 L 8) (slotK W2 L 8 nx) nx:=hhd
       rw [e];omega))
      obtain ⟨key,hkey⟩:∃ key,key=keyN L 8 nx:=⟨_,rfl⟩
      have g0:∀ W,Kept (TwoB gh2 gb2) wb W→W.cell? ⟨Sk,0,none⟩=some (.slice (some ⟨g,o,none⟩) n c):=fun W hk=>hk.cellS d0 (fun e=>by rcases e with e | e;exact HB.out.n03 e;exact HB.out.n04 e)
      have g1:∀ W,Kept (TwoB gh2 gb2) wb W→W.cell? ⟨Sk,1,none⟩=some (.int .i64 (nx:Int)):=fun W hk=>hk.cellS d1 (fun e=>by rcases e with e | e;exact HB.out.n03 e;exact HB.out.n04 e)
      have HFin:=Hd (fun W W' (hk:Kept NoB wb W) (h2:Kept (TwoB gh2 gb2) W W') (p1:PlcAt W' gh2 (hs2.set (slotN W2 key) (nx:Int))) (p2:PlcAt W' gb2 (bs2.set nx (hs2.getD (slotN W2 key) 0)))=>(⟨by
       have h:=(HS2.out.keptS HB.out hk (fun _ _ h=>h)).add2 HB.out h2 (by rw [hkey] at p1;exact p1) (by rw [hkey] at p2;exact p2) (by omega)
       rw [hmin2];exact h,(HK1.out.trans hk.dom).trans (h2.mono (fun k _ e=>twoB_in HB.out.b3 HB.out.b4 k e))⟩:SeekSt W' Sk (some ⟨g,o,none⟩) c nx (min (nx+1) (L.length - 2)) (min (nx+1) (L.length - 7)) W1 gh1 gb1 W2 gh2 gb2 L hs1 bs1 (hs2.set (slotN W2 (keyN L 8 nx)) (nx:Int)) (bs2.set nx (hs2.getD (slotN W2 (keyN L 8 nx)) 0))∧Kept (InB lo hi) w W'))
      rw [← hkey] at HSk HAd HFin
      have hnxn:(nx:Int)≤(n:Int):=by omega
      have hncx:¬ c=nx:=by omega
      clear hl hnl hmin hmin2 d0 d1 ch1 ch2 hpb hhd hkey h3
      go_wp2_with fail
      refine wp_region_noPanic ?_
      refine wp_region_held_drew (S:=fun W=>Kept (TwoB gh2 gb2) wb W) (by kernel_rfl) (Kept.drew (Kept.refl _ _)) (fun hHeld=>?_)
      obtain ⟨wd,hwd⟩:∃ x,x=wb.drew:=⟨_,rfl⟩
      have hkd:Kept NoB wb wd:=by rw [hwd];exact Kept.drew (Kept.refl _ _)
      rw [← hwd] at hHeld ⊢
      clear hwd
      refine wpAnyH_take (i:=0) (v:=?_) (by rw [List.getElem?_toArray];rfl) (by kernel_rfl) (by kernel_rfl) (by kernel_rfl) (fun _ _ _ h=>h) (Or.inl ⟨by rfl,?hyq13_⟩) (by assumption) ?restq13_
      case hyq13_=>(intro w hSw;(try dsimp only at hSw);(try have e1:=g1 w hSw);(try have e0:=g0 w hSw);go_simp;(try with_reducible rfl))
      try simp only [Act.put,List.setIfInBounds_toArray,List.set_cons_zero,List.set_cons_succ]
      refine wpAnyH_take (i:=1) (v:=?_) (by rw [List.getElem?_toArray];rfl) (by kernel_rfl) (by kernel_rfl) (by kernel_rfl) (fun _ _ _ h=>h) (Or.inl ⟨by rfl,?hyq14_⟩) (by assumption) ?restq14_
      case hyq14_=>(intro w hSw;(try dsimp only at hSw);(try have e1:=g1 w hSw);(try have e0:=g0 w hSw);go_simp;(try with_reducible rfl))
      try simp only [Act.put,List.setIfInBounds_toArray,List.set_cons_zero,List.set_cons_succ]
      refine wpAnyH_take (i:=2) (v:=?_) (by rw [List.getElem?_toArray];rfl) (by kernel_rfl) (by kernel_rfl) (by kernel_rfl) (fun _ _ _ h=>h) (Or.inl ⟨by rfl,?hyq15_⟩) (by assumption) ?restq15_
      case hyq15_=>(intro w hSw;(try dsimp only at hSw);(try have e1:=g1 w hSw);(try have e0:=g0 w hSw);go_simp;(try with_reducible rfl))
      try simp only [Act.put,List.setIfInBounds_toArray,List.set_cons_zero,List.set_cons_succ]
      refine wpAnyH_take (i:=3) (v:=?_) (by rw [List.getElem?_toArray];rfl) (by kernel_rfl) (by kernel_rfl) (by kernel_rfl) (fun _ _ _ h=>h) (Or.inl ⟨by rfl,?hyq16_⟩) (by assumption) ?restq16_
      case hyq16_=>(intro w hSw;(try dsimp only at hSw);(try have e1:=g1 w hSw);(try have e0:=g0 w hSw);go_simp;(try with_reducible rfl))
      try simp only [Act.put,List.setIfInBounds_toArray,List.set_cons_zero,List.set_cons_succ]
      refine wpAnyH_take (i:=4) (v:=?_) (by rw [List.getElem?_toArray];rfl) (by kernel_rfl) (by kernel_rfl) (by kernel_rfl) (fun _ _ _ h=>h) (Or.inl ⟨by rfl,?hyq17_⟩) (by assumption) ?restq17_
      case hyq17_=>(intro w hSw;(try dsimp only at hSw);(try have e1:=g1 w hSw);(try have e0:=g0 w hSw);go_simp;(try with_reducible rfl))
      try simp only [Act.put,List.setIfInBounds_toArray,List.set_cons_zero,List.set_cons_succ]
      refine wpAnyH_take (i:=5) (v:=?_) (by rw [List.getElem?_toArray];rfl) (by kernel_rfl) (by kernel_rfl) (by kernel_rfl) (fun _ _ _ h=>h) (Or.inl ⟨by rfl,?hyq18_⟩) (by assumption) ?restq18_
      case hyq18_=>(intro w hSw;(try dsimp only at hSw);(try have e1:=g1 w hSw);(try have e0:=g0 w hSw);go_simp;(try with_reducible rfl))
      try simp only [Act.put,List.setIfInBounds_toArray,List.set_cons_zero,List.set_cons_succ]
      refine wpAnyH_take (i:=6) (v:=?_) (by rw [List.getElem?_toArray];rfl) (by kernel_rfl) (by kernel_rfl) (by kernel_rfl) (fun _ _ _ h=>h) (Or.inl ⟨by rfl,?hyq19_⟩) (by assumption) ?restq19_
      case hyq19_=>(intro w hSw;(try dsimp only at hSw);(try have e1:=g1 w hSw);(try have e0:=g0 w hSw);go_simp;(try with_reducible rfl))
      try simp only [Act.put,List.setIfInBounds_toArray,List.set_cons_zero,List.set_cons_succ]
      refine wpAnyH_take (i:=7) (v:=?_) (by rw [List.getElem?_toArray];rfl) (by kernel_rfl) (by kernel_rfl) (by kernel_rfl) (fun _ _ _ h=>h) (Or.inl ⟨by rfl,?hyq20_⟩) (by assumption) ?restq20_
      case hyq20_=>(intro w hSw;(try dsimp only at hSw);(try have e1:=g1 w hSw);(try have e0:=g0 w hSw);go_simp;(try with_reducible rfl))
      try simp only [Act.put,List.setIfInBounds_toArray,List.set_cons_zero,List.set_cons_succ]
      refine wpAnyH_take (i:=8) (v:=?_) (by rw [List.getElem?_toArray];rfl) (by kernel_rfl) (by kernel_rfl) (by kernel_rfl) (fun _ _ _ h=>h) (Or.inl ⟨by rfl,?hyq21_⟩) (by assumption) ?restq21_
      case hyq21_=>(intro w hSw;(try dsimp only at hSw);(try have e1:=g1 w hSw);(try have e0:=g0 w hSw);go_simp;(try with_reducible rfl))
      try simp only [Act.put,List.setIfInBounds_toArray,List.set_cons_zero,List.set_cons_succ]
      refine wpAnyH_take (i:=9) (v:=?_) (by rw [List.getElem?_toArray];rfl) (by kernel_rfl) (by kernel_rfl) (by kernel_rfl) (fun _ _ _ h=>h) (Or.inl ⟨by rfl,?hyq22_⟩) (by assumption) ?restq22_
      case hyq22_=>(intro w hSw;(try dsimp only at hSw);(try have e1:=g1 w hSw);(try have e0:=g0 w hSw);go_simp;(try with_reducible rfl))
      try simp only [Act.put,List.setIfInBounds_toArray,List.set_cons_zero,List.set_cons_succ]
      refine wpAnyH_take (i:=10) (v:=?_) (by rw [List.getElem?_toArray];rfl) (by kernel_rfl) (by kernel_rfl) (by kernel_rfl) (fun _ _ _ h=>h) (Or.inl ⟨by rfl,?hyq23_⟩) (by assumption) ?restq23_
      case hyq23_=>(intro w hSw;(try dsimp only at hSw);(try have e1:=g1 w hSw);(try have e0:=g0 w hSw);go_simp;(try with_reducible rfl))
      try simp only [Act.put,List.setIfInBounds_toArray,List.set_cons_zero,List.set_cons_succ]
      refine wpAnyH_take (i:=11) (v:=?_) (by rw [List.getElem?_toArray];rfl) (by kernel_rfl) (by kernel_rfl) (by kernel_rfl) (fun _ _ _ h=>h) (Or.inl ⟨by rfl,?hyq24_⟩) (by assumption) ?restq24_
      case hyq24_=>(intro w hSw;(try dsimp only at hSw);(try have e1:=g1 w hSw);(try have e0:=g0 w hSw);go_simp;(try with_reducible rfl))
      try simp only [Act.put,List.setIfInBounds_toArray,List.set_cons_zero,List.set_cons_succ]
      refine wpAnyH_take (i:=12) (v:=?_) (by rw [List.getElem?_toArray];rfl) (by kernel_rfl) (by kernel_rfl) (by kernel_rfl) (fun _ _ _ h=>h) (Or.inl ⟨by rfl,?hyq25_⟩) (by assumption) ?restq25_
      case hyq25_=>(intro w hSw;(try dsimp only at hSw);(try have e1:=g1 w hSw);(try have e0:=g0 w hSw);go_simp;(try with_reducible rfl))
      try simp only [Act.put,List.setIfInBounds_toArray,List.set_cons_zero,List.set_cons_succ]
      refine wpAnyH_take (i:=13) (v:=?_) (by rw [List.getElem?_toArray];rfl) (by kernel_rfl) (by kernel_rfl) (by kernel_rfl) (fun _ _ _ h=>h) (Or.inl ⟨by rfl,?hyq26_⟩) (by assumption) ?restq26_
      case hyq26_=>(intro w hSw;(try dsimp only at hSw);(try have e1:=g1 w hSw);(try have e0:=g0 w hSw);go_simp;(try with_reducible rfl))
      try simp only [Act.put,List.setIfInBounds_toArray,List.set_cons_zero,List.set_cons_succ]
      refine wpAnyH_take (i:=14) (v:=?_) (by rw [List.getElem?_toArray];rfl) (by kernel_rfl) (by kernel_rfl) (by kernel_rfl) (fun _ _ _ h=>h) (Or.inl ⟨by rfl,?hyq27_⟩) (by assumption) ?restq27_
      case hyq27_=>(intro w hSw;(try dsimp only at hSw);(try have e1:=g1 w hSw);(try have e0:=g0 w hSw);go_simp;(try with_reducible rfl))
      try simp only [Act.put,List.setIfInBounds_toArray,List.set_cons_zero,List.set_cons_succ]
      refine wpAnyH_take (i:=15) (v:=?_) (by rw [List.getElem?_toArray];rfl) (by kernel_rfl) (by kernel_rfl) (by kernel_rfl) (fun _ _ _ h=>h) (Or.inl ⟨by rfl,?hyq28_⟩) (by assumption) ?restq28_
      case hyq28_=>(intro w hSw;(try dsimp only at hSw);(try have e1:=g1 w hSw);(try have e0:=g0 w hSw);go_simp;(try with_reducible rfl))
      try simp only [Act.put,List.setIfInBounds_toArray,List.set_cons_zero,List.set_cons_succ]
      refine wpAnyH_ready (rs:=[16]) (by kernel_rfl) (by simp) ?_
      refine AllReadyH.cons (by rw [List.getElem?_toArray];rfl) (fun K hK=>?_) AllReadyH.nil
      go_simp
      go_at_call 118
      (with_reducible refine (HSk.out wd hkd).mono ?_)
      rintro e wn ⟨rfl,hkn⟩
      have hSn:=hHeld.trans (hkn.dom:Kept (TwoB gh2 gb2) wd wn)
      have hkN:Kept NoB wb wn:=hkd.trans hkn
      go_wp2_with fail
      refine hK.out _ _ hSn (fun hHeld=>?_)
      clear hK K hSn
      try simp only [Act.put,List.setIfInBounds_toArray,List.set_cons_zero,List.set_cons_succ]
      refine wpAnyH_ready (rs:=[17]) (by kernel_rfl) (by simp) ?_
      refine AllReadyH.cons (by rw [List.getElem?_toArray];rfl) (fun K hK=>?_) AllReadyH.nil
      go_simp
      go_at_call 139
      (with_reducible refine (HAd.out wn hkN).mono ?_)
      rintro e wm ⟨rfl,hkm,hp1,hp2⟩
      have HF:=Hd (HFin.out wn wm hkN hkm hp1 hp2)
      have hSn:=hHeld.trans hkm
      go_wp2_with fail
      refine hK.out _ _ hSn (fun hHeld=>?_)
      clear hK K hSn
      try simp only [Act.put,List.setIfInBounds_toArray,List.set_cons_zero,List.set_cons_succ]
      refine wpAnyH_done (by kernel_rfl) ?_ _
      refine NoPanic.normal ?_
      clear hHeld hkd hkN hkn hkm hp1 hp2 g1 g0
      go_wp2
      go_meet
      exact ⟨_,_,_,_,Hd HF.out.1,Hd HF.out.2⟩
     ·have h3i:¬ (8:Int)≤(lf:Int):=by omega
      have HS2:Hid (SeekSt wb Sk (some ⟨g,o,none⟩) c nx (min (nx+1) (L.length - 2)) (min (nx+1) (L.length - 7)) W1 gh1 gb1 W2 gh2 gb2 L hs1 bs1 hs2 bs2):=Hd (by
       have h:=HS1.out
       have hl:=HLf.out;have hnl:=HNn.out
       rw [show min (nx+1) (L.length - 7)=min nx (L.length - 7) by omega]
       exact h)
      go_wp2
      go_meet
      exact ⟨hs1,bs1,hs2,bs2,HS2,HK1⟩
   case rest=>
   obtain ⟨hs1,bs1,hs2,bs2,HS2,HK2⟩:=hcut
   obtain ⟨wd,hwd⟩:∃ wd,wd=wc:=⟨_,rfl⟩
   rw [← hwd] at HS2 HK2 ⊢
   clear hwd
   obtain ⟨d0,d1,ch1,ch2⟩:=HS2.out.cells
   have hfz:wd.frozen? ⟨Sk,1,none⟩=false:=obj_free HS2.out.obj 1
   have hset:=HS2.out.nextSet HB.out (nx+1)
   have hcx:((nx:Int)+1)=((nx+1:Nat):Int):=by omega
   have HSx:Hid (SeekSt (wd.setCell ⟨Sk,1,none⟩ (.int .i64 ((nx:Int)+1))) Sk (some ⟨g,o,none⟩) c (nx+1) (min (nx+1) (L.length - 2)) (min (nx+1) (L.length - 7)) W1 gh1 gb1 W2 gh2 gb2 L hs1 bs1 hs2 bs2):=Hd (by rw [hcx];exact hset)
   have HKx:=Hd (Kept.setCell (S:=InB lo hi) (p:=⟨Sk,1,none⟩) HK2.out (.inl HB.out.b0) (.int .i64 ((nx:Int)+1)))
   have hm1:=HS.out.cells.2.1
   have hm2:=HSx.out.cells.2.1
   have HM1:=Hd hm1;have HM2:=Hd hm2
   clear hset hcx d0 ch1 ch2 hm1 hm2
   go_wp2
   go_roundw
   case rel=>exact ⟨nx+1,hs1,bs1,hs2,bs2,by omega,by omega,HSx,HKx⟩
   case measure=>
    rw [HM1.out,HM2.out]
    simp only
    omega
  ·have hli:¬ (nx:Int) < (a:Int):=by omega
   have hnx:nx=a:=by omega
   have HF:Hid (SeekR w lo hi Sk (some ⟨g,o,none⟩) c W1 gh1 gb1 W2 gh2 gb2 L wr a):=Hd ⟨HK.out,hs1,bs1,hs2,bs2,hnx ▸ HS.out⟩
   clear hnx
   go_wp2
   refine bodyPost_end (results_none rfl _ _ _) rfl ?_
   exact ⟨rfl,HF.out⟩
end Go.Proofs.YtfmjfgmbjdhogaaGreatDoor
