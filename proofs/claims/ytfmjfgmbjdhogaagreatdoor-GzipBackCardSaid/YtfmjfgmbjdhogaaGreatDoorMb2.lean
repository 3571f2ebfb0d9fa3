import Derived.Test.YtfmjfgmbjdhogaaGreatDoorMb1
import Derived.Lib.EndianBits
import Derived.Laws.Bits64b
import Derived.BigQuiet
import Derived.Deep.QuietTactic
import Derived.Deep.RegionHeld3
import Derived.Lib.LaidTab
import Derived.Deep.CutBlock
import Derived.Deep.AppendSrc
import Derived.Laws.BytesArg
import Derived.Deep.DeepCutAuto
set_option linter.unusedVariables false
set_option linter.unusedSimpArgs false
set_option maxRecDepth 20000
set_option maxHeartbeats 8000000
namespace Go.Proofs.YtfmjfgmbjdhogaaGreatDoor
open Go.RowKit
def RdB (w:World)(g o:Nat)(L:List UInt8)(p n:Nat):Prop:=∀ i,i < n→w.cell? ⟨g,o+i,none⟩=some (.int .u8 ((L.getD (p+i) 0).toNat:Int))
theorem RdB.kept {w w':World}{g o p n:Nat}{L:List UInt8}(h:RdB w g o L p n)(hk:Kept NoB w w'):RdB w' g o L p n:=fun i hi=>hk.cell (h i hi)
theorem RdB.drop {w:World}{g o p n:Nat}{L:List UInt8}(h:RdB w g o L p n)(k:Nat):RdB w g (o+k) L (p+k) (n - k):=fun i hi=>by
 have:=h (k+i) (by omega)
 rw [show o+k+i=o+(k+i) by omega,show p+k+i=p+(k+i) by omega]
 exact this
theorem le8 (b0 b1 b2 b3 b4 b5 b6 b7:UInt8):((Lib.leNat [b0,b1,b2,b3,b4,b5,b6,b7]:Nat):Int)=(b0.toNat:Int)+(b1.toNat:Int)*256+(b2.toNat:Int)*65536+(b3.toNat:Int)*16777216+(b4.toNat:Int)*4294967296+(b5.toNat:Int)*1099511627776+(b6.toNat:Int)*281474976710656+(b7.toNat:Int)*72057594037927936:=by
 simp only [Lib.leNat]
 omega
theorem le3 (b0 b1 b2:UInt8):((Lib.leNat [b0,b1,b2]:Nat):Int)=(b0.toNat:Int)+(b1.toNat:Int)*256+(b2.toNat:Int)*65536:=by
 simp only [Lib.leNat]
 omega
theorem key8 (L:List UInt8)(p:Nat)(h:p+8≤L.length):((keyN L 8 p:Nat):Int)=((L.getD p 0).toNat:Int)+((L.getD (p+1) 0).toNat:Int)*256+((L.getD (p+2) 0).toNat:Int)*65536+((L.getD (p+3) 0).toNat:Int)*16777216+((L.getD (p+4) 0).toNat:Int)*4294967296+((L.getD (p+5) 0).toNat:Int)*1099511627776+((L.getD (p+6) 0).toNat:Int)*281474976710656+((L.getD (p+7) 0).toNat:Int)*72057594037927936:=by
 have e:(L.drop p).take 8=[L.getD p 0,L.getD (p+1) 0,L.getD (p+2) 0,L.getD (p+3) 0,L.getD (p+4) 0,L.getD (p+5) 0,L.getD (p+6) 0,L.getD (p+7) 0]:=by
  apply List.ext_getElem?
  intro j
  have hg:∀ i,i < 8→((L.drop p).take 8)[i]?=some (L.getD (p+i) 0):=fun i hi=>by
   rw [List.getElem?_take_of_lt hi,List.getElem?_drop,List.getElem?_eq_getElem (by omega)]
   simp [List.getD,show p+i < L.length by omega]
  match j with
  | 0=>exact hg 0 (by omega)
  | 1=>exact hg 1 (by omega)
  | 2=>exact hg 2 (by omega)
  | 3=>exact hg 3 (by omega)
  | 4=>exact hg 4 (by omega)
  | 5=>exact hg 5 (by omega)
  | 6=>exact hg 6 (by omega)
  | 7=>exact hg 7 (by omega)
  | j+8=>rw [List.getElem?_eq_none (by simp;omega),List.getElem?_eq_none (by simp)]
 unfold keyN
 rw [e]
 exact le8 _ _ _ _ _ _ _ _
theorem key3 (L:List UInt8)(p:Nat)(h:p+3≤L.length):((keyN L 3 p:Nat):Int)=((L.getD p 0).toNat:Int)+((L.getD (p+1) 0).toNat:Int)*256+((L.getD (p+2) 0).toNat:Int)*65536:=by
 have e:(L.drop p).take 3=[L.getD p 0,L.getD (p+1) 0,L.getD (p+2) 0]:=by
  apply List.ext_getElem?
  intro j
  have hg:∀ i,i < 3→((L.drop p).take 3)[i]?=some (L.getD (p+i) 0):=fun i hi=>by
   rw [List.getElem?_take_of_lt hi,List.getElem?_drop,List.getElem?_eq_getElem (by omega)]
   simp [List.getD,show p+i < L.length by omega]
  match j with
  | 0=>exact hg 0 (by omega)
  | 1=>exact hg 1 (by omega)
  | 2=>exact hg 2 (by omega)
  | j+3=>rw [List.getElem?_eq_none (by simp;omega),List.getElem?_eq_none (by simp)]
 unfold keyN
 rw [e]
 exact le3 _ _ _
set_option maxRecDepth 100000 in
theorem word_any (g o n c p:Nat)(L:List UInt8)(w:World)(hr:RdB w g o L p n)(hn:8≤n)(hnm:n≤9223372036854775807)(hp:p+8≤L.length):
  Calls Tryz.prog 118 #[.slice (some ⟨g,o,none⟩) n c] w fun e w'=>e = .returned (.int .u64 (keyN L 8 p:Int))∧Kept NoB w w':=by
 have hk:=key8 L p hp
 have c0:=hr 0 (by omega);have c1:=hr 1 (by omega);have c2:=hr 2 (by omega);have c3:=hr 3 (by omega)
 have c4:=hr 4 (by omega);have c5:=hr 5 (by omega);have c6:=hr 6 (by omega);have c7:=hr 7 (by omega)
 rw [Nat.add_zero,Nat.add_zero] at c0
 obtain ⟨K,hK⟩:∃ K:Int,K=(keyN L 8 p:Int):=⟨_,rfl⟩
 rw [← hK] at hk ⊢
 have hb:∀ i,(L.getD i 0).toNat < 256:=fun i=>(L.getD i 0).toNat_lt
 have q0:=hb p;have q1:=hb (p+1);have q2:=hb (p+2);have q3:=hb (p+3);have q4:=hb (p+4);have q5:=hb (p+5);have q6:=hb (p+6);have q7:=hb (p+7)
 generalize (L.getD p 0).toNat=b0 at *
 generalize (L.getD (p+1) 0).toNat=b1 at *
 generalize (L.getD (p+2) 0).toNat=b2 at *
 generalize (L.getD (p+3) 0).toNat=b3 at *
 generalize (L.getD (p+4) 0).toNat=b4 at *
 generalize (L.getD (p+5) 0).toNat=b5 at *
 generalize (L.getD (p+6) 0).toNat=b6 at *
 generalize (L.getD (p+7) 0).toNat=b7 at *
 have HK:=Hd hk
 have r1:(1:Int) < (n:Int):=by omega
 have r2:(2:Int) < (n:Int):=by omega
 have r3:(3:Int) < (n:Int):=by omega
 have r4:(4:Int) < (n:Int):=by omega
 have r5:(5:Int) < (n:Int):=by omega
 have r6:(6:Int) < (n:Int):=by omega
 have r7:(7:Int) < (n:Int):=by omega
 have r0:0 < n:=by omega
 clear hk hK hb hr hp
 go_enter Tryz.func118,Tryz.ntmps118
 go_wp2
 go_quiet (fail)
 go_wp2
 go_ret
 refine ⟨?_,(Kept.refl NoB w).drewN _⟩
 simp (disch:=omega) only [u64_wrap_id,u64_or8,u64_or16,u64_or24,u64_or32,u64_or40,u64_or48,u64_or56]
 rw [HK.out]
 rfl
def DeB (w:World):Prop:=∀ j,j < 64→w.cell? ⟨1,j,none⟩=some (.int .u8 ((Lib.deBruijn64tab.getD j 0:Nat):Int))
theorem DeB.kept {w w':World}(h:DeB w)(hk:Kept NoB w w'):DeB w':=fun j hj=>hk.cell (h j hj)
set_option maxRecDepth 100000 in
theorem tz_core (x k idx:Nat)(w:World)(hx0:((x:Int) == 0)=false)
  (key:IntKind.u64.wrap (bits BinOp.and IntKind.u64 (x:Int) (IntKind.u64.wrap (-(x:Int)))*285870213051353865) / 288230376151711744=(idx:Int))
  (hi:idx < 64) (hk:k < 64) (hcell:w.cell? ⟨1,idx,none⟩=some (.int .u8 k)):
  Calls Tryz.prog 180 #[.int .u64 x] w fun e w'=>e = .returned (.int .i64 k)∧w'=w:=by
 go_enter Tryz.func180,Tryz.ntmps180
 go_wp2_with (simp only [key])
 go_ret
 exact ⟨rfl,rfl⟩
theorem tz_key (x a:Nat)(hx:x < 18446744073709551616)(hx0:x≠0)(hlow:x &&& (18446744073709551616 - x)=a):
  IntKind.u64.wrap (bits BinOp.and IntKind.u64 (x:Int) (IntKind.u64.wrap (-(x:Int)))*285870213051353865) / 288230376151711744=((a*285870213051353865 % 18446744073709551616 / 288230376151711744:Nat):Int):=by
 have e1:IntKind.u64.wrap (-(x:Int))=((18446744073709551616 - x:Nat):Int):=by rw [IntKind.wrap_u64];omega
 rw [e1,bits_and_u64_nat x _ hx (by omega),hlow,IntKind.wrap_u64]
 omega
theorem tz_any (x:Nat)(w:World)(hx0:x≠0)(hx:x < 18446744073709551616)(hT:DeB w):
  Calls Tryz.prog 180 #[.int .u64 x] w fun e w'=>e = .returned (.int .i64 (Lib.ctz 64 x))∧w'=w:=by
 obtain ⟨hlow,hk⟩:=Lib.lowest_bit 64 x hx0 hx
 obtain ⟨hi,htab⟩:=Lib.deBruijn64_at _ hk
 refine tz_core x (Lib.ctz 64 x) _ w (by simp;omega) (tz_key x _ hx hx0 hlow) hi hk ?_
 rw [hT _ hi,htab]
set_option maxRecDepth 100000 in
theorem shared_any (g o1 n1 c1 p o2 n2 c2 q m:Nat)(L:List UInt8)(w:World)(hr1:RdB w g o1 L p n1)(hr2:RdB w g o2 L q n2)(h1:m≤n1)(h2:m≤n2)(hc1:n1≤c1)(hc2:n2≤c2)(hm:m≤258)(hb1:c1≤9223372036854775807)(hb2:c2≤9223372036854775807)(hp:p+n1=L.length)(hq:q+n2=L.length)(hT:DeB w):
  Calls Tryz.prog 166 #[.slice (some ⟨g,o1,none⟩) n1 c1,.slice (some ⟨g,o2,none⟩) n2 c2,.int .i64 (m:Int)] w fun e w'=>e = .returned (.int .i64 (shr L p q m:Int))∧Kept NoB w w':=by
 have HR1:=Hd hr1;have HR2:=Hd hr2;have HT:=Hd hT;have HP:=Hd hp;have HQ:=Hd hq
 clear hr1 hr2 hT hp hq
 have HEq:=Hd (fun k=>shr_eq L m p q k)
 obtain ⟨R,hR⟩:∃ R,R=shr L p q m:=⟨_,rfl⟩
 rw [← hR] at HEq ⊢
 clear hR
 go_enter Tryz.func166,Tryz.ntmps166
 go_wp2
 go_loopw [7,8] (fun v7 v8 wr=>∃ i:Nat,v7 = .int .i64 (i:Int)∧i≤m∧Hid (∀ j,j < i→L.getD (p+j) 0=L.getD (q+j) 0)∧Hid (Kept NoB w wr)) (fun v7 _ _=>m - (intOf v7).toNat)
 case atStart=>exact ⟨0,rfl,by omega,Hd (fun j hj=>by omega),Hd (Kept.refl _ _)⟩
 case round=>
  obtain ⟨i,rfl,hi,HI,HK⟩:=hrel
  by_cases h8:i+8≤m
  ·have h8i:(i:Int)+8≤(m:Int):=by omega
   have HW1:=Hd (fun W (hk:Kept NoB wr W)=>word_any g (o1+i) (n1 - i) (c1 - i) (p+i) L W ((HR1.out.kept (HK.out.trans hk)).drop i) (by omega) (by omega) (by have:=HP.out;omega))
   have HW2:=Hd (fun W (hk:Kept NoB wr W)=>word_any g (o2+i) (n2 - i) (c2 - i) (q+i) L W ((HR2.out.kept (HK.out.trans hk)).drop i) (by omega) (by omega) (by have:=HQ.out;omega))
   have hk1:=key_iff L 8 (p+i) (q+i) (by have:=HP.out;omega) (by have:=HQ.out;omega)
   have hct:=ctz_part L (p+i) (q+i) (by have:=HP.out;omega) (by have:=HQ.out;omega)
   have hl1:keyN L 8 (p+i) < 2 ^ 64:=key_lt L 8 _
   have hl2:keyN L 8 (q+i) < 2 ^ 64:=key_lt L 8 _
   have hxl:=Nat.xor_lt_two_pow hl1 hl2
   have hxz:=xor_zero (keyN L 8 (p+i)) (keyN L 8 (q+i))
   have hbx:bits .xor .u64 (keyN L 8 (p+i):Int) (keyN L 8 (q+i):Int)=((keyN L 8 (p+i) ^^^ keyN L 8 (q+i):Nat):Int):=bits_xor_u64_nat _ _ hl1 hl2
   obtain ⟨k1,hk1e⟩:∃ k1,k1=keyN L 8 (p+i):=⟨_,rfl⟩
   obtain ⟨k2,hk2e⟩:∃ k2,k2=keyN L 8 (q+i):=⟨_,rfl⟩
   rw [← hk1e] at HW1;rw [← hk2e] at HW2
   rw [← hk1e,← hk2e] at hk1 hct hxl hxz hbx
   obtain ⟨X,hX⟩:∃ X,X=k1 ^^^ k2:=⟨_,rfl⟩
   rw [← hX] at hct hxl hxz hbx
   have HX:=Hd hxz;have HCt:=Hd hct;have HKi:=Hd hk1;have HXl:=Hd hxl
   have hin1:(i:Int)≤(n1:Int):=by omega
   have hin2:(i:Int)≤(n2:Int):=by omega
   have hic1:¬ c1=i:=by omega
   have hic2:¬ c2=i:=by omega
   have hw0:=Kept.refl NoB wr
   clear hk1 hct hl1 hl2 hxl hxz hk1e hk2e hX
   go_upto_region 3 with fail
   go_region_held3 (fun W=>Kept NoB wr W) (first | assumption | exact Kept.drew (by assumption) | exact Kept.trans (by assumption) hkn)
    (first
     | (go_at_call 118;((with_reducible refine (HW1.out _ (by assumption)).mono ?_);rintro e wn ⟨rfl,hkn⟩))
     | (go_at_call 118;((with_reducible refine (HW2.out _ (by assumption)).mono ?_);rintro e wn ⟨rfl,hkn⟩)))
   all_goals (
    have HKn:=Hd (HK.out.trans (show Kept NoB wr wn by assumption))
    by_cases hx0:X=0
    ·have y1:((X:Int) == 0)=true:=by rw [hx0];rfl
     have y2:((X:Int) != 0)=false:=by rw [hx0];rfl
     have HI2:Hid (∀ j,j < i+8→L.getD (p+j) 0=L.getD (q+j) 0):=Hd (fun j hj=>by
      by_cases hji:j < i
      ·exact HI.out j hji
      ·have:=(HKi.out.1 (HX.out.1 hx0)) (j - i) (by omega)
       rw [show p+i+(j - i)=p+j by omega,show q+i+(j - i)=q+j by omega] at this
       exact this)
     clear hx0 hbx
     go_wp2
     go_roundw
     case rel=>exact ⟨i+8,by go_num,by omega,HI2,HKn⟩
     case measure=>simp [intOf];omega
    ·have y1:((X:Int) == 0)=false:=by simp;omega
     have y2:((X:Int) != 0)=true:=by simp;omega
     obtain ⟨t1,t2,t3⟩:=HCt.out hx0
     have HTz:=Hd (tz_any X wn hx0 HXl.out (HT.out.kept HKn.out))
     obtain ⟨ct,hct⟩:∃ ct,ct=Lib.ctz 64 X:=⟨_,rfl⟩
     rw [← hct] at t1 t2 t3 HTz
     obtain ⟨cq,hcq⟩:∃ cq,cq=ct / 8:=⟨_,rfl⟩
     rw [← hcq] at t1 t2 t3
     have hd1:(ct:Int) / 8=(cq:Int):=by omega
     have hd2:(ct:Int).tdiv 8=(cq:Int):=by rw [Int.tdiv_eq_ediv_of_nonneg (by omega)];exact hd1
     have HF:Hid (R=i+cq):=Hd (HEq.out (i+cq) (by omega) (fun j hj=>by
      by_cases hji:j < i
      ·exact HI.out j hji
      ·have:=t2 (j - i) (by omega)
       rw [show p+i+(j - i)=p+j by omega,show q+i+(j - i)=q+j by omega] at this
       exact this) (.inr (by rw [show p+(i+cq)=p+i+cq by omega,show q+(i+cq)=q+i+cq by omega];exact t3)))
     clear hx0 hct hcq t2 t3 hbx
     go_wp2_with fail
     with_reducible refine HTz.out.mono ?_
     rintro e w5 ⟨rfl,rfl⟩
     go_wp2
     go_ret
     exact ⟨by rw [HF.out];first | rfl | simp,HKn.out⟩)
  ·have h8i:¬ (i:Int)+8≤(m:Int):=by omega
   go_wp2
   go_loopw [7] (fun v7 wq=>∃ i:Nat,v7 = .int .i64 (i:Int)∧i≤m∧Hid (∀ j,j < i→L.getD (p+j) 0=L.getD (q+j) 0)∧Hid (Kept NoB w wq)) (fun v7 _=>m - (intOf v7).toNat)
   case atStart=>exact ⟨i,rfl,hi,HI,HK⟩
   case round=>
    clear h8i h8 hi HI HK
    obtain ⟨i,rfl,hi,HI,HK⟩:=hrel
    by_cases hlt:i < m
    ·have hli:(i:Int) < (m:Int):=by omega
     have c1a:=HK.out.cell (HR1.out i (by omega))
     have c2a:=HK.out.cell (HR2.out i (by omega))
     have hs1:(i:Int) < (n1:Int):=by omega
     have hs2:(i:Int) < (n2:Int):=by omega
     obtain ⟨x,hx⟩:∃ x,x=L.getD (p+i) 0:=⟨_,rfl⟩
     obtain ⟨y,hy⟩:∃ y,y=L.getD (q+i) 0:=⟨_,rfl⟩
     rw [← hx] at c1a
     rw [← hy] at c2a
     by_cases hxy:x=y
     ·have HI2:Hid (∀ j,j < i+1→L.getD (p+j) 0=L.getD (q+j) 0):=Hd (fun j hj=>by
       by_cases e:j=i
       ·subst e;rw [← hx,← hy];exact hxy
       ·exact HI.out j (by omega))
      clear hx hy
      subst hxy
      have hbb:((x.toNat:Int) == (x.toNat:Int))=true:=by simp
      go_wp2_with fail
      go_quiet (fail)
      have HK2:=Hd (HK.out.drewN nq)
      go_wp2
      go_roundw
      case rel=>exact ⟨i+1,by go_num,by omega,HI2,HK2⟩
      case measure=>simp [intOf];omega
     ·have HF:Hid (R=i):=Hd (HEq.out i (by omega) HI.out (.inr (by rw [← hx,← hy];exact hxy)))
      have hbb:((x.toNat:Int) == (y.toNat:Int))=false:=by
       have:x.toNat≠y.toNat:=fun e=>hxy (UInt8.toNat_inj.1 e)
       simp;omega
      have hbn:((x.toNat:Nat) == y.toNat)=false:=by
       have:x.toNat≠y.toNat:=fun e=>hxy (UInt8.toNat_inj.1 e)
       simpa using this
      clear hx hy hxy
      go_wp2_with fail
      go_quiet (fail)
      have HK2:=Hd (HK.out.drewN nq)
      go_wp2
      go_ret
      exact ⟨by rw [HF.out];rfl,HK2.out⟩
    ·have hie:i=m:=by omega
     have HF:Hid (R=i):=Hd (HEq.out i (by omega) HI.out (.inl hie))
     have hd:decide ((i:Int) < (m:Int))=false:=decide_eq_false (by omega)
     clear hie
     go_wp2_with fail
     go_quiet (fail)
     have HK2:=Hd (HK.out.drewN nq)
     go_wp2
     go_ret
     exact ⟨by rw [HF.out];rfl,HK2.out⟩
def bestC (g o N c a m n d:Nat):Array Value:=#[.slice (some ⟨g,o,none⟩) N c,.int .i64 (a:Int),.int .i64 (m:Int),.int .i64 (n:Int),.int .i64 (d:Int)]
def BestAt (w:World)(r g o N c a m n d:Nat):Prop:=w.heap[r]?=some (.cells (bestC g o N c a m n d) 180 (0,0))
theorem BestAt.cells {w:World}{r g o N c a m n d:Nat}(h:BestAt w r g o N c a m n d):
  w.cell? ⟨r,0,none⟩=some (.slice (some ⟨g,o,none⟩) N c)∧w.cell? ⟨r,1,none⟩=some (.int .i64 (a:Int))∧w.cell? ⟨r,2,none⟩=some (.int .i64 (m:Int))∧w.cell? ⟨r,3,none⟩=some (.int .i64 (n:Int))∧w.cell? ⟨r,4,none⟩=some (.int .i64 (d:Int)):=
 ⟨obj_cell h 0,obj_cell h 1,obj_cell h 2,obj_cell h 3,obj_cell h 4⟩
theorem BestAt.kept {w w':World}{r g o N c a m n d:Nat}(h:BestAt w r g o N c a m n d)(hk:Kept NoB w w'):BestAt w' r g o N c a m n d:=hk.obj h (fun h=>h)
theorem infoBest:(Tryz.prog.info? 180).map (·.size)=some 5:=by kernel_rfl
theorem newbest_any (ao:Option Addr)(N c a:Nat)(w:World)(ha:a≤N)(hN:N≤9223372036854775807):
  Calls Tryz.prog 116 #[.slice ao N c,.int .i64 (a:Int)] w fun e w'=>e = .returned (.agg #[.slice ao N c,.int .i64 (a:Int),.int .i64 ((min 258 (N - a):Nat):Int),.int .i64 2,.int .i64 0])∧Kept NoB w w':=by
 by_cases h:(N:Int) - (a:Int) < 258
 ·have HX:Hid ((N:Int) - (a:Int)=((min 258 (N - a):Nat):Int)):=Hd (by omega)
  go_enter Tryz.func116,Tryz.ntmps116
  go_wp2
  refine bodyPost_ret (results_cell_row rfl _ _ w.heap.size 180 _ (0,0) _ rfl (heap_alloc_new _ _) Tryz.underlying180 rfl infoBest) rfl ?_
  exact ⟨by rw [HX.out],(Kept.refl NoB w).alloc _⟩
 ·have HX:Hid ((258:Int)=((min 258 (N - a):Nat):Int)):=Hd (by omega)
  go_enter Tryz.func116,Tryz.ntmps116
  go_wp2
  refine bodyPost_ret (results_cell_row rfl _ _ w.heap.size 180 _ (0,0) _ rfl (heap_alloc_new _ _) Tryz.underlying180 rfl infoBest) rfl ?_
  exact ⟨by rw [← HX.out],(Kept.refl NoB w).alloc _⟩
theorem bfull_any (r g o N c a m n d:Nat)(w:World)(hb:BestAt w r g o N c a m n d):
  Calls Tryz.prog 141 #[.pointer (some ⟨r,0,none⟩)] w fun e w'=>e = .returned (.bool (decide (m≤n)))∧Kept NoB w w':=by
 obtain ⟨c0,c1,c2,c3,c4⟩:=hb.cells
 have hd:decide ((m:Int)≤(n:Int))=decide (m≤n):=by simp
 clear hb
 go_enter Tryz.func141,Tryz.ntmps141
 go_wp2
 go_quiet (fail)
 go_wp2
 go_ret
 exact ⟨by first | rfl | (rw [hd];rfl),(Kept.refl NoB w).drewN _⟩
theorem answer_any (r g o N c a m n d:Nat)(w:World)(hb:BestAt w r g o N c a m n d):
  Calls Tryz.prog 119 #[.pointer (some ⟨r,0,none⟩)] w fun e w'=>e = .returned (.tuple #[.int .i64 (if d=0 then 0 else (n:Int)),.int .i64 (d:Int)])∧Kept NoB w w':=by
 obtain ⟨c0,c1,c2,c3,c4⟩:=hb.cells
 clear hb
 by_cases hd:d=0
 ·rw [if_pos hd]
  have y1:((d:Int) == 0)=true:=by rw [hd];rfl
  subst hd
  go_enter Tryz.func119,Tryz.ntmps119
  go_wp2
  go_ret2
  exact ⟨rfl,Kept.refl NoB w⟩
 ·rw [if_neg hd]
  have y1:((d:Int) == 0)=false:=by simp;omega
  go_enter Tryz.func119,Tryz.ntmps119
  go_wp2
  go_quiet (fail)
  go_wp2
  go_ret2
  exact ⟨rfl,(Kept.refl NoB w).drewN _⟩
def TryP (w:World)(r g o N c a m:Nat)(L:List UInt8)(n d from_:Nat)(e:Ending)(w':World):Prop:=
 e = .returned (.tuple #[])∧Kept (OneB r) w w'∧BestAt w' r g o N c a m (if n < shr L from_ a m then shr L from_ a m else n) (if n < shr L from_ a m then a - from_ else d)
set_option maxRecDepth 100000 in
theorem try_any (r g o N c a m n d f:Nat)(L:List UInt8)(w:World)(hb:BestAt w r g o N c a m n d)(hr:RdB w g o L 0 N)(hN:N=L.length)(hc:N≤c)(hcm:c≤9223372036854775807)(hm:m=min 258 (N - a))(hnm:n < m)(hf:f < a)(haN:a < N)(hT:DeB w):
  Calls Tryz.prog 142 #[.pointer (some ⟨r,0,none⟩),.int .i64 (f:Int)] w (TryP w r g o N c a m L n d f):=by
 have HB:=Hd hb;have HR:=Hd hr;have HT:=Hd hT;have HN:=Hd hN
 obtain ⟨c0,c1,c2,c3,c4⟩:=hb.cells
 have hfn:=hr (f+n) (by omega)
 have han:=hr (a+n) (by omega)
 rw [Nat.zero_add] at hfn han
 obtain ⟨x,hx⟩:∃ x,x=L.getD (f+n) 0:=⟨_,rfl⟩
 obtain ⟨y,hy⟩:∃ y,y=L.getD (a+n) 0:=⟨_,rfl⟩
 rw [← hx] at hfn
 rw [← hy] at han
 obtain ⟨fn,hfn2⟩:∃ fn,fn=f+n:=⟨_,rfl⟩
 obtain ⟨an,han2⟩:∃ an,an=a+n:=⟨_,rfl⟩
 rw [← hfn2] at hfn
 rw [← han2] at han
 have i1:(f:Int)+(n:Int)=(fn:Int):=by omega
 have i2:(a:Int)+(n:Int)=(an:Int):=by omega
 have i3:(fn:Int) < (N:Int):=by omega
 have i4:(an:Int) < (N:Int):=by omega
 have hmb:m≤258:=by omega
 have hmN:a+m≤N:=by omega
 have HSh:=Hd (fun W (hk:Kept NoB w W)=>shared_any g (o+f) (N - f) (c - f) f (o+a) (N - a) (c - a) a m L W (by have:=(hr.kept hk).drop f;rwa [Nat.zero_add] at this) (by have:=(hr.kept hk).drop a;rwa [Nat.zero_add] at this) (by omega) (by omega) (by omega) (by omega) hmb (by omega) (by omega) (by omega) (by omega) (hT.kept hk))
 have HIf:=Hd (fun k (hk:k≤m)=>shr_iff L m f a k hk)
 obtain ⟨S,hS⟩:∃ S,S=shr L f a m:=⟨_,rfl⟩
 have hSm:S≤m:=by rw [hS];exact shr_le L m f a
 unfold TryP
 rw [← hS] at HSh HIf ⊢
 obtain ⟨n2,hn2⟩:∃ n2,n2=(if n < S then S else n):=⟨_,rfl⟩
 obtain ⟨d2,hd2⟩:∃ d2,d2=(if n < S then a - f else d):=⟨_,rfl⟩
 rw [← hn2,← hd2]
 have HN2:=Hd hn2;have HD2:=Hd hd2
 clear hn2 hd2
 have w1:IntKind.i64.wrap (fn:Int)=(fn:Int):=IntWalk.i64_in _ (by omega)
 have w2:IntKind.i64.wrap (an:Int)=(an:Int):=IntWalk.i64_in _ (by omega)
 clear hb hr hT hN hS hfn2 han2 hm
 by_cases hxy:x=y
 ·clear hx hy
  subst hxy
  have hbb:((x.toNat:Int) == (x.toNat:Int))=true:=by simp
  have hbn:((x.toNat:Int) != (x.toNat:Int))=false:=by simp
  go_enter Tryz.func142,Tryz.ntmps142
  go_wp2
  go_quiet (fail)
  have hk1:Kept NoB w (w.drewN nq):=(Kept.refl NoB w).drewN nq
  obtain ⟨wq,hwq⟩:∃ wq,wq=w.drewN nq:=⟨_,rfl⟩
  rw [← hwq] at hk1 ⊢
  have HK1:=Hd hk1
  have g0:∀ W,Kept NoB wq W→W.cell? ⟨r,0,none⟩=some (.slice (some ⟨g,o,none⟩) N c):=fun W hk=>hk.cell (hk1.cell c0)
  have g1:∀ W,Kept NoB wq W→W.cell? ⟨r,1,none⟩=some (.int .i64 (a:Int)):=fun W hk=>hk.cell (hk1.cell c1)
  have g2:∀ W,Kept NoB wq W→W.cell? ⟨r,2,none⟩=some (.int .i64 (m:Int)):=fun W hk=>hk.cell (hk1.cell c2)
  have j1:(f:Int)≤(N:Int):=by omega
  have j2:(a:Int)≤(N:Int):=by omega
  have j3:¬ c=f:=by omega
  have j4:¬ c=a:=by omega
  have hk0:=Kept.refl NoB wq
  clear c0 c1 c2 c3 c4 hfn han hwq hk1
  go_wp2_with fail
  go_region_held3 (fun W=>Kept NoB wq W) (first | assumption | exact Kept.drew (by assumption) | exact Kept.trans (by assumption) hkn)
   (first
    | (go_at_call 166;((with_reducible refine (HSh.out _ (HK1.out.trans (by assumption))).mono ?_);rintro e wn ⟨rfl,hkn⟩)))
  all_goals (
   have HKn:=Hd (HK1.out.trans (show Kept NoB wq wn by assumption))
   have hbn:=HB.out.kept HKn.out
   obtain ⟨b0,b1,b2,b3,b4⟩:=hbn.cells
   have HBn:=Hd hbn
   clear hbn g0 g1 g2
   by_cases hSn:n < S
   ·have hSi:(n:Int) < (S:Int):=by omega
    have e3:wn.frozen? ⟨r,3,none⟩=false:=obj_free HBn.out 3
    have o1:=obj_set HBn.out 3 (.int .i64 (S:Int))
    have e4:(wn.setCell ⟨r,3,none⟩ (.int .i64 (S:Int))).frozen? ⟨r,4,none⟩=false:=obj_free o1 4
    have e5:(wn.setCell ⟨r,3,none⟩ (.int .i64 (S:Int))).cell? ⟨r,4,none⟩=some (.int .i64 (d:Int)):=obj_cell o1 4
    obtain ⟨dd,hdd⟩:∃ dd,dd=a - f:=⟨_,rfl⟩
    have hdi:(a:Int) - (f:Int)=(dd:Int):=by omega
    have o2:=obj_set o1 4 (.int .i64 (dd:Int))
    have HKf:=Hd (Kept.setCell (p:=⟨r,4,none⟩) (Kept.setCell (S:=OneB r) (p:=⟨r,3,none⟩) (HKn.out.mono (fun _ _ h=>absurd h (fun h=>h))) (.inl rfl) (.int .i64 (S:Int))) (.inl rfl) (.int .i64 (dd:Int)))
    have HBf:Hid (BestAt ((wn.setCell ⟨r,3,none⟩ (.int .i64 (S:Int))).setCell ⟨r,4,none⟩ (.int .i64 (dd:Int))) r g o N c a m n2 d2):=Hd (by
     rw [HN2.out,HD2.out,if_pos hSn,if_pos hSn,← hdd]
     exact o2)
    clear o1 o2 hdd
    go_wp2
    refine bodyPost_end (results_none rfl _ _ _) rfl ?_
    exact ⟨rfl,HKf.out,HBf.out⟩
   ·have hSi:¬ (n:Int) < (S:Int):=by omega
    have HBf:Hid (BestAt wn r g o N c a m n2 d2):=Hd (by
     rw [HN2.out,HD2.out,if_neg hSn,if_neg hSn]
     exact HBn.out)
    go_wp2
    refine bodyPost_end (results_none rfl _ _ _) rfl ?_
    exact ⟨rfl,HKn.out.mono (fun _ _ h=>absurd h (fun h=>h)),HBf.out⟩)
 ·have HF:Hid (¬ n < S):=Hd (fun h=>by
   have:=(HIf.out (n+1) (by omega)).1 (by omega) n (by omega)
   rw [← hx,← hy] at this
   exact hxy this)
  have hne:x.toNat≠y.toNat:=fun e=>hxy (UInt8.toNat_inj.1 e)
  have hbb:((x.toNat:Int) == (y.toNat:Int))=false:=by simp;omega
  have hbn:((x.toNat:Int) != (y.toNat:Int))=true:=by simp;omega
  clear hx hy hxy hne
  go_enter Tryz.func142,Tryz.ntmps142
  go_wp2
  have HBf:Hid (BestAt w r g o N c a m n2 d2):=Hd (by
   rw [HN2.out,HD2.out,if_neg HF.out,if_neg HF.out]
   exact HB.out)
  go_quiet (fail)
  go_wp2
  refine bodyPost_ret (results_none rfl _ _ _) rfl ?_
  exact ⟨rfl,((Kept.refl NoB w).drewN _).mono (fun _ _ h=>absurd h (fun h=>h)),HBf.out.kept ((Kept.refl NoB w).drewN _)⟩
def RowB (w:World)(n:Nat)(ao:Option Addr)(L:List UInt8):Prop:=0 < L.length→∃ g o,ao=some ⟨g,o,none⟩∧g < n∧RdB w g o L 0 L.length
theorem RdB.keptS {S:Nat→Prop}{w w':World}{g o p n:Nat}{L:List UInt8}(h:RdB w g o L p n)(hk:Kept S w w')(hs:¬ S g):RdB w' g o L p n:=fun i hi=>by
 have hc:=h i hi
 exact (World.cell?_of_block (hk.block _ (World.block_lt_of_cell? w _ hc) hs)).trans hc
theorem DeB.keptS {S:Nat→Prop}{w w':World}(h:DeB w)(hk:Kept S w w')(hs:¬ S 1):DeB w':=fun j hj=>by
 have hc:=h j hj
 exact (World.cell?_of_block (hk.block _ (World.block_lt_of_cell? w _ hc) hs)).trans hc
theorem BestP.all {c:Nat→Nat}{D D2 n0 n d m:Nat}(h:BestP c D n0 n d)(hD:D≤D2)(hm:m≤n)(hc:∀ e,c e≤m):BestP c D2 n0 n d:=h.skip hD (fun e _ _=>Nat.le_trans (hc e) hm)
def bc (L:List UInt8):List Value:=L.map fun b=>Value.int .u8 (b.toNat:Int)
def nb (L:List UInt8):List Int:=L.map fun b=>(b.toNat:Int)
theorem bc_nb (L:List UInt8):bc L=(nb L).map (.int .u8):=by simp [bc,nb]
theorem nb_len (L:List UInt8):(nb L).length=L.length:=by simp [nb]
theorem nb_all (L:List UInt8):AllB (nb L):=by
 intro b hb
 obtain ⟨c,_,rfl⟩:=List.mem_map.1 hb
 have:=UInt8.toNat_lt c
 omega
def un (xs:List Int):List UInt8:=xs.map fun n=>UInt8.ofNat n.toNat
theorem nb_un {xs:List Int}(h:AllB xs):nb (un xs)=xs:=by
 unfold nb un
 rw [List.map_map]
 conv=>rhs;rw [← List.map_id xs]
 apply List.map_congr_left
 intro x hx
 have:=h x hx
 simp only [Function.comp_apply,id_eq,UInt8.toNat_ofNat']
 omega
structure BySt (w0 w:World)(a:Option Addr)(l c:Nat)(L:List UInt8):Prop where
 len:l=L.length
 own:w.ownsRow 0 5 1 (.slice a l c) l (bc L)
 kept:Kept NoB w0 w
 fresh:∀ k,(Value.slice a l c).ownBlock=some k→w0.heap.size≤k
theorem BySt.nil (w:World):BySt w w none 0 0 []:=⟨rfl,World.ownsRow_nil _ _ _ _,Kept.refl _ _,fun k hk=>by simp [Value.ownBlock] at hk⟩
theorem BySt.on {w0 w w':World}{a:Option Addr}{l c:Nat}{L:List UInt8}(h:BySt w0 w a l c L)(hk:Kept NoB w w'):BySt w0 w' a l c L:=⟨h.len,hk.row h.own (fun _ _ h=>h),h.kept.trans hk,h.fresh⟩
theorem BySt.reads {w0 w:World}{a:Option Addr}{l c:Nat}{L:List UInt8}(h:BySt w0 w a l c L):Reads w a (nb L):=by
 have ho:=h.own
 have hl:=h.len
 subst hl
 rw [bc_nb] at ho
 have e:=nb_len L
 rw [← e] at ho
 exact own_reads ho rfl
theorem BySt.cap {w0 w:World}{a:Option Addr}{l c:Nat}{L:List UInt8}(h:BySt w0 w a l c L):l≤c∧c≤maxLen∧(a=none→c=0):=⟨(own_cap h.own).1,(own_cap h.own).2,own_nil h.own⟩
theorem kv_shape {w:World}{base e s:Nat}{v:Value}{n:Nat}{xs:List Value}(h:w.ownsRow base e s v n xs):∃ ao cap,v = .slice ao n cap:=by
 rcases h.2 with ⟨rfl,rfl⟩ | ⟨g,cap,cur,rfl,_⟩
 ·exact ⟨none,0,rfl⟩
 ·exact ⟨_,cap,rfl⟩
theorem BySt.grow {w0 w w':World}{a:Option Addr}{l c n:Nat}{L M:List UInt8}{v:Value}(h:BySt w0 w a l c L)(ho:w'.ownsRow 0 5 1 v (l+n) (bc L++bc M))(hn:n=M.length)(hg:w.grownBy w' (Value.slice a l c).ownBlock)
  (hf:∀ k,v.ownBlock=some k→(Value.slice a l c).ownBlock=some k∨w.heap.size≤k):∃ a2 c2,v = .slice a2 (l+n) c2∧BySt w0 w' a2 (l+n) c2 (L++M):=by
 obtain ⟨a2,c2,rfl⟩:=kv_shape ho
 refine ⟨a2,c2,rfl,by rw [List.length_append,h.len,hn],by simpa [bc] using ho,h.kept.grown hg (fun k hk e=>by have:=h.fresh k e;omega),?_⟩
 intro k hk
 rcases hf k hk with e | e
 ·exact h.fresh k e
 ·have:=h.kept.size;omega
theorem wpList_by_row {w:World}{ops:Array Oper}{rest:List Oper}{o:Oper}{act:Act}{Q:Exit→Act→World→Prop}(hgd:o.guard=none)(s x:Operand)
  (ho:o.op = .call { callee := .builtin .append,args:=#[s,x],argTypes:=#[22,22] })
  {w0:World} {a:Option Addr} {l c:Nat} {L:List UInt8} (hS:BySt w0 w a l c L) (hs:act.eval s = .slice a l c) (ad:Addr) (cx m:Nat) (M:List UInt8) (hm:m=M.length) (hx:act.eval x = .slice (some ad) m cx) (hr:Reads w (some ad) (nb M)) (hn:l+m≤100000000)
  (h:∀ a2 c2 w',BySt w0 w' a2 (l+m) c2 (L++M)→wpList Tryz.prog ops Q rest (act.put o.dst (.slice a2 (l+m) c2)) w'):wpList Tryz.prog ops Q (o :: rest) act w:=by
 obtain ⟨i0,hi,hz0,hz1,hz2⟩:=info_parts info5
 refine wpList_app w hgd s x 22 ho 5 i0 (.int .u8 0) 1 1 Tryz.underlying22 hi hz0 hz1 hz2 rfl (by decide) _ l (bc L) hs hS.own ad m cx (bc M) hx (by simp [bc,hm]) ?_ ?_ (by unfold maxLen;omega) (by omega) ?_
 ·rw [bc_nb];exact reads_news hr
 ·rw [bc_nb];exact news_one _
 intro v' w' h2 h3 h4
 obtain ⟨a2,c2,rfl,hb⟩:=hS.grow h2 hm h3 h4
 exact h _ _ _ hb
theorem BySt.rowB {w0 w:World}{a:Option Addr}{l c:Nat}{L:List UInt8}(h:BySt w0 w a l c L):RowB w w.heap.size a L:=fun hl=>by
 have hn:=h.len
 rcases h.own.2 with ⟨_,hz⟩ | ⟨g,cc,cur,hv,_⟩
 ·omega
 ·simp at hv
  obtain ⟨rfl,rfl⟩:=hv
  have hc:∀ i,i < L.length→w.cell? ⟨g,i,none⟩=some (.int .u8 ((L.getD i 0).toNat:Int)):=fun i hi=>by
   rw [h.own.cellAt i (by omega),bc,List.getElem?_map,List.getElem?_eq_getElem hi]
   simp [List.getD,hi]
  refine ⟨g,0,rfl,block_lt_of_cell (hc 0 hl),fun i hi=>?_⟩
  rw [Nat.zero_add]
  exact hc i hi
theorem run_app_str (w:World)(t tx ty:TypeId)(ht:Tryz.prog.underlying t=some (.slice 5))(hk:Tryz.prog.underlying tx=some .string)(v:Value)(n:Nat)(xs:List Value)(hown:w.ownsRow 0 5 1 v n xs)
  (s:ByteArray) (h0:0 < s.size) (hn:n+s.size≤100000000):
  ∃ v' w',(Builtin.append_ #[t,tx] ty #[v,.string s]).run Tryz.prog w = .ok v' w'∧w'.ownsRow 0 5 1 v' (n+s.size) (xs++byteCells s)∧w.grownBy w' v.ownBlock∧
   (∀ k,v'.ownBlock=some k→v.ownBlock=some k∨w.heap.size≤k):=by
 obtain ⟨i,hi,hz,hsz,hby⟩:=info_parts info5
 have hbl:=byteCells_length s
 have hlen:(xs++byteCells s).length=(n+s.size)*1:=by rw [List.length_append,hown.1,hbl];omega
 rcases hown.2 with ⟨rfl,rfl⟩ | ⟨g,c,cur,rfl,hbg,hg,hnc,hcm,hcs,htake⟩
 ·have hx:xs=[]:=List.eq_nil_of_length_eq_zero (by simpa using hown.1)
  subst hx
  have hr:=run_append_nil_string (P:=Tryz.prog) w t tx ty 5 i (.int .u8 0) ht hk hi hz s h0 (by omega) (by rw [hby];omega)
  have hge:=grownCap_ge w s.size 0 5
  have hcm2:grownCap w s.size 0 5≤maxLen:=grownCap_le_maxLen w s.size 0 5 (by unfold maxLen;omega)
  rw [Nat.zero_add]
  refine ⟨_,_,hr,⟨by simpa using hlen,.inr ⟨w.heap.size,_,_,rfl,Nat.zero_le _,heap_alloc_new w.drew _,hge,hcm2,?_,?_⟩⟩,⟨rfl,rfl,rfl,by simp,fun k hk _=>heap_alloc_old w.drew _ hk⟩,fun k hk => .inr (by simp [Value.ownBlock] at hk;omega)⟩
  ·have hcc:(Value.int .u8 0).cells.size=1:=rfl
   have e:s.data.size=s.size:=rfl
   simp only [Array.size_append,Array.size_map,size_zeroCells,hcc,e]
   omega
  ·rw [Array.toList_append,Array.toList_map,List.nil_append]
   have e:(s.size*1)=(s.data.toList.map fun b=>Value.int .u8 (b.toNat:Int)).length:=by rw [← hbl];simp [byteCells]
   rw [e,List.take_left]
   rfl
 ·by_cases hroom:n+s.size≤c
  ·have hfit:n*i.size+(byteCells s).length≤cur.size:=by rw [hcs,hsz,hbl];omega
   have hst:=run_storeCells_at Tryz.prog g (n*i.size) 5 (byteCells s) 0 cur w hg (by simpa using hfit) (by intro v hv;obtain ⟨_,_,rfl⟩:=List.mem_map.1 hv;rfl)
   simp only [Nat.add_zero] at hst
   obtain ⟨row,hrow⟩:∃ row,row=(cur.toList.take (n*1)++byteCells s++cur.toList.drop (n*1+(byteCells s).length)).toArray:=⟨_,rfl⟩
   have hsrc:=Go.Src.ofString (P:=Tryz.prog) w hk s
   have hrun:(Builtin.append_ #[t,tx] ty #[.slice (some ⟨g,0,none⟩) n c,.string s]).run Tryz.prog w = .ok (.slice (some ⟨g,0,none⟩) (n+s.size) c) (w.setRow g row):=by
    rw [hsz] at hst
    rw [← hrow] at hst
    simp at hst
    have h2:=hsrc.cells
    have h3:=hsrc.len
    simp [Builtin.append_,run_underlying ht,run_underlying hk,sizeOf,typeInfo,hi,h3,hroom,hsz,h2,Addr.add_lit,hst]
   have hrs:row.size=c*1:=by
    rw [hrow]
    simp only [List.size_toArray,List.length_append,List.length_take,List.length_drop,Array.length_toList,hbl]
    omega
   have hrt:row.toList.take ((n+s.size)*1)=xs++byteCells s:=by
    rw [hrow,List.toList_toArray,htake,← hlen]
    exact List.take_left
   exact ⟨_,_,hrun,⟨hlen,.inr ⟨g,c,row,rfl,hbg,setRow_heap w g cur _ _ _ hg,hroom,hcm,hrs,hrt⟩⟩,⟨rfl,rfl,rfl,by simp,fun k hk _=>setRow_other w g k _ (fun e=>by subst e;simp [Value.ownBlock] at *)⟩,fun k hk => .inl (by simpa [Value.ownBlock] using hk)⟩
  ·have hnew:∀ j u,xs[j]?=some u→w.drew.cell? ((⟨g,0,none⟩:Addr).add j)=some u:=hown.cells (g:=g) rfl
   have hold:=run_firstCells_some (P:=Tryz.prog) w.drew 1 n ⟨g,0,none⟩ n c xs hown.1 hnew
   have hsrc:=Go.Src.ofString (P:=Tryz.prog) w hk s
   have hr:=run_append_grow_src (P:=Tryz.prog) w t tx ty 5 i (.int .u8 0) ht hi hz (some ⟨g,0,none⟩) n c xs (by rw [hsz];exact hold) (.string s) s.size (byteCells s) (by rw [hsz];exact hsrc) (by omega) (by omega)
    (by rw [hby];exact growslice_fits (by omega) (by omega))
   have hge:=grownCap_ge w (n+s.size) c 5
   have hcm2:grownCap w (n+s.size) c 5≤maxLen:=grownCap_le_maxLen w (n+s.size) c 5 (by unfold maxLen;omega)
   refine ⟨_,_,hr,⟨hlen,.inr ⟨w.heap.size,_,_,rfl,Nat.zero_le _,heap_alloc_new w.drew _,hge,hcm2,?_,?_⟩⟩,⟨rfl,rfl,rfl,by simp,fun k hk _=>heap_alloc_old w.drew _ hk⟩,fun k hk => .inr (by simp [Value.ownBlock] at hk;omega)⟩
   ·have h1:=hown.1
    have hcc:(Value.int .u8 0).cells.size=1:=rfl
    simp only [Array.size_append,List.size_toArray,size_zeroCells,hcc,hlen]
    omega
   ·rw [Array.toList_append,List.toList_toArray,← hlen,List.take_left]
theorem wpList_app_str {w:World}{ops:Array Oper}{rest:List Oper}{o:Oper}{a:Act}{Q:Exit→Act→World→Prop}(hgd:o.guard=none)(s x:Operand)(t tx:TypeId)
  (ho:o.op = .call { callee := .builtin .append,args:=#[s,x],argTypes:=#[t,tx] }) (ht:Tryz.prog.underlying t=some (.slice 5)) (hk:Tryz.prog.underlying tx=some .string)
  (v:Value) (n:Nat) (xs:List Value) (hs:a.eval s=v) (hown:w.ownsRow 0 5 1 v n xs) (str:ByteArray) (hx:a.eval x = .string str) (h0:0 < str.size) (hn:n+str.size≤100000000)
  (h:∀ v' w',w'.ownsRow 0 5 1 v' (n+str.size) (xs++byteCells str)→w.grownBy w' v.ownBlock→(∀ k,v'.ownBlock=some k→v.ownBlock=some k∨w.heap.size≤k)→wpList Tryz.prog ops Q rest (a.put o.dst v') w'):wpList Tryz.prog ops Q (o :: rest) a w:=
 wpList_plain hgd fun _ hK=>by
  obtain ⟨v',w',hr,h2,h3,h4⟩:=run_app_str w t tx o.type ht hk v n xs hown str h0 hn
  unfold Oper.wp execOp
  simp only [ho,resolve,invoke,builtin,Sem.run_bind,Sem.run_pure,Result.andThen_ok,List.map_toArray,List.map_cons,List.map_nil,hs,hx,hr]
  exact hK _ _ (h v' w' h2 h3 h4)
def poly:Nat:=3988292384
def step1 (r:Nat):Nat:=if r % 2=1 then r / 2 ^^^ poly else r / 2
def steps:Nat→Nat→Nat
 | 0,r=>r
 | n+1,r=>step1 (steps n r)
def upd (r b:Nat):Nat:=r / 256 ^^^ steps 8 (r % 256 ^^^ b)
def flip (c:Nat):Nat:=4294967295 - c
def regOf (r:Nat)(bs:List Nat):Nat:=bs.foldl upd r
def crcOf (c:Nat)(bs:List Nat):Nat:=flip (regOf (flip c) bs)
theorem poly_lt:poly < 4294967296:=by decide
theorem step1_lt (r:Nat)(h:r < 4294967296):step1 r < 4294967296:=by
 unfold step1
 split
 ·exact Nat.xor_lt_two_pow (n:=32) (by omega) poly_lt
 ·omega
theorem steps_lt (n r:Nat)(h:r < 4294967296):steps n r < 4294967296:=by
 induction n with
 | zero=>exact h
 | succ n ih=>exact step1_lt _ ih
theorem upd_lt (r b:Nat)(hr:r < 4294967296)(hb:b < 256):upd r b < 4294967296:=by
 unfold upd
 have h1:r % 256 ^^^ b < 256:=Nat.xor_lt_two_pow (n:=8) (Nat.mod_lt _ (by decide)) hb
 exact Nat.xor_lt_two_pow (n:=32) (by omega) (steps_lt 8 _ (by omega))
theorem regOf_lt (bs:List Nat)(r:Nat)(hr:r < 4294967296)(hb:∀ b∈bs,b < 256):regOf r bs < 4294967296:=by
 induction bs generalizing r with
 | nil=>exact hr
 | cons b t ih=>exact ih (upd r b) (upd_lt r b hr (hb b (by simp))) (fun x hx=>hb x (by simp [hx]))
theorem regOf_append (r:Nat)(a b:List Nat):regOf r (a++b)=regOf (regOf r a) b:=List.foldl_append
theorem flip_flip (c:Nat)(h:c < 4294967296):flip (flip c)=c:=by unfold flip;omega
theorem flip_lt (c:Nat):flip c < 4294967296:=by unfold flip;omega
theorem crcOf_lt (c:Nat)(bs:List Nat):crcOf c bs < 4294967296:=flip_lt _
theorem crcOf_append (c:Nat)(a b:List Nat)(ha:∀ x∈a,x < 256):crcOf c (a++b)=crcOf (crcOf c a) b:=by
 unfold crcOf
 rw [regOf_append,flip_flip _ (regOf_lt a _ (flip_lt _) ha)]
theorem crcOf_nil (c:Nat)(h:c < 4294967296):crcOf c []=c:=flip_flip c h
def revN:Nat→Nat→Nat
 | 0,_=>0
 | n+1,v=>2*revN n v+v / 2 ^ n % 2
theorem revN_bit (n v i:Nat):(revN n v).testBit i=(decide (i < n) && v.testBit (n - 1 - i)):=by
 induction n generalizing i with
 | zero=>simp [revN]
 | succ n ih=>
  have hb:v / 2 ^ n % 2 < 2:=Nat.mod_lt _ (by decide)
  cases i with
  | zero=>
   have e:(v / 2 ^ n).testBit 0=v.testBit n:=by rw [Nat.testBit_div_two_pow];simp
   rw [← show v.testBit n=v.testBit (n+1 - 1 - 0) from by simp,← e]
   simp only [revN,Nat.testBit_zero]
   have:(2*revN n v+v / 2 ^ n % 2) % 2=v / 2 ^ n % 2:=by omega
   rw [this];simp
  | succ i=>
   have:(2*revN n v+v / 2 ^ n % 2) / 2=revN n v:=by omega
   simp only [revN,Nat.testBit_succ,this,ih]
   have e:n - 1 - i=n+1 - 1 - (i+1):=by omega
   rw [e];simp
theorem revN_lt (n v:Nat):revN n v < 2 ^ n:=by
 induction n with
 | zero=>simp [revN]
 | succ n ih=>
  have hb:v / 2 ^ n % 2 < 2:=Nat.mod_lt _ (by decide)
  simp only [revN,Nat.pow_succ];omega
theorem revN_revN (n v:Nat)(h:v < 2 ^ n):revN n (revN n v)=v:=by
 apply Nat.eq_of_testBit_eq
 intro i
 rw [revN_bit,revN_bit]
 by_cases hi:i < n
 ·have e:n - 1 - (n - 1 - i)=i:=by omega
  simp [hi,e];omega
 ·have:v.testBit i=false:=Nat.testBit_lt_two_pow (Nat.lt_of_lt_of_le h (Nat.pow_le_pow_right (by decide) (by omega)))
  simp [hi,this]
def sw (k m v:Nat):Nat:=(v / 2 ^ k &&& m) ||| ((v &&& m)*2 ^ k % 4294967296)
def swi (k m i:Nat):Nat:=if m.testBit i then i+k else i - k
theorem sw_bit (k m v i:Nat)(hi:i < 32)(hm:∀ j,j < 32→m.testBit j=false→k≤j∧m.testBit (j - k)=true)(hm2:∀ j,j < 32→m.testBit j=true→j < k∨m.testBit (j - k)=false):
  (sw k m v).testBit i=v.testBit (swi k m i):=by
 unfold sw swi
 rw [Nat.testBit_or,Nat.testBit_and,Nat.testBit_div_two_pow,show (4294967296:Nat)=2 ^ 32 from rfl,Nat.testBit_mod_two_pow,Nat.testBit_mul_two_pow,Nat.testBit_and]
 cases hb:m.testBit i with
 | true=>
  rcases hm2 i hi hb with h | h
  ·have:¬ k≤i:=by omega
   simp [this,Nat.add_comm]
  ·simp [h,Nat.add_comm]
 | false=>
  have h:=hm i hi hb
  simp [h.1,h.2,hi]
theorem sw_lt (k m v:Nat)(hm:m < 4294967296):sw k m v < 4294967296:=by
 unfold sw
 exact Nat.or_lt_two_pow (n:=32) (Nat.and_lt_two_pow _ hm) (Nat.mod_lt _ (by decide))
def net (v:Nat):Nat:=
 let a:=sw 8 16711935 (sw 4 252645135 (sw 2 858993459 (sw 1 1431655765 v)))
 a / 65536 ||| a*65536 % 4294967296
theorem net_lt (v:Nat):net v < 4294967296:=by
 have ha:=sw_lt 8 16711935 (sw 4 252645135 (sw 2 858993459 (sw 1 1431655765 v))) (by decide)
 unfold net
 exact Nat.or_lt_two_pow (n:=32) (Nat.lt_of_le_of_lt (Nat.div_le_self _ _) ha) (Nat.mod_lt _ (by decide))
theorem mask_ok (k m:Nat)(h:∀ j:Fin 32,(m.testBit j.val=false→k≤j.val∧m.testBit (j.val - k)=true)∧(m.testBit j.val=true→j.val < k∨m.testBit (j.val - k)=false)):
  (∀ j,j < 32→m.testBit j=false→k≤j∧m.testBit (j - k)=true)∧(∀ j,j < 32→m.testBit j=true→j < k∨m.testBit (j - k)=false):=
 ⟨fun j hj=>(h ⟨j,hj⟩).1,fun j hj=>(h ⟨j,hj⟩).2⟩
theorem net_bit (v i:Nat)(hi:i < 32):(net v).testBit i=v.testBit (31 - i):=by
 have m1:=mask_ok 1 1431655765 (by decide +kernel)
 have m2:=mask_ok 2 858993459 (by decide +kernel)
 have m4:=mask_ok 4 252645135 (by decide +kernel)
 have m8:=mask_ok 8 16711935 (by decide +kernel)
 have ha:=sw_lt 8 16711935 (sw 4 252645135 (sw 2 858993459 (sw 1 1431655765 v))) (by decide)
 have hs:∀ j:Fin 32,swi 8 16711935 j.val < 32∧swi 4 252645135 (swi 8 16711935 j.val) < 32∧swi 2 858993459 (swi 4 252645135 (swi 8 16711935 j.val)) < 32∧
   swi 1 1431655765 (swi 2 858993459 (swi 4 252645135 (swi 8 16711935 j.val)))=(if j.val < 16 then 15 - j.val else 47 - j.val):=by decide +kernel
 have hbit:∀ j,j < 32→(sw 8 16711935 (sw 4 252645135 (sw 2 858993459 (sw 1 1431655765 v)))).testBit j=v.testBit (if j < 16 then 15 - j else 47 - j):=by
  intro j hj
  obtain ⟨s1,s2,s3,s4⟩:=hs ⟨j,hj⟩
  simp only at s1 s2 s3 s4
  rw [sw_bit 8 _ _ j hj m8.1 m8.2,sw_bit 4 _ _ _ s1 m4.1 m4.2,sw_bit 2 _ _ _ s2 m2.1 m2.2,sw_bit 1 _ _ _ s3 m1.1 m1.2,s4]
 unfold net
 simp only
 generalize sw 8 16711935 (sw 4 252645135 (sw 2 858993459 (sw 1 1431655765 v)))=a at ha hbit ⊢
 rw [Nat.testBit_or,show (65536:Nat)=2 ^ 16 from rfl,Nat.testBit_div_two_pow,show (4294967296:Nat)=2 ^ 32 from rfl,Nat.testBit_mod_two_pow,Nat.testBit_mul_two_pow]
 by_cases h16:i < 16
 ·have h1:=hbit (i+16) (by omega)
  have hn:¬ 16≤i:=by omega
  have e:(if i+16 < 16 then 15 - (i+16) else 47 - (i+16))=31 - i:=by split <;> omega
  rw [e] at h1
  simp [h1,hn]
 ·have h1:a.testBit (i+16)=false:=Nat.testBit_lt_two_pow (Nat.lt_of_lt_of_le ha (Nat.pow_le_pow_right (n:=2) (i:=32) (by decide) (by omega)))
  have h2:=hbit (i - 16) (by omega)
  have e:(if i - 16 < 16 then 15 - (i - 16) else 47 - (i - 16))=31 - i:=by split <;> omega
  rw [e] at h2
  have hn:16≤i:=by omega
  simp [h1,h2,hn,hi]
theorem net_rev (v n:Nat)(hn:n≤32):net v / 2 ^ (32 - n)=revN n v:=by
 apply Nat.eq_of_testBit_eq
 intro i
 rw [revN_bit,Nat.testBit_div_two_pow]
 by_cases hi:i < n
 ·have e1:32 - n+i=i+(32 - n):=Nat.add_comm _ _
  have e2:31 - (i+(32 - n))=n - 1 - i:=by omega
  first
   | rw [net_bit v (i+(32 - n)) (by omega),e2];simp [hi]
   | rw [e1,net_bit v (i+(32 - n)) (by omega),e2];simp [hi]
 ·have h1:(net v).testBit (i+(32 - n))=false:=Nat.testBit_lt_two_pow (Nat.lt_of_lt_of_le (net_lt v) (Nat.pow_le_pow_right (n:=2) (i:=32) (by decide) (by omega)))
  simp [hi,h1]
theorem sw_eq (k m v:Nat)(hv:v < 4294967296)(hm:m < 4294967296):
  bits .or .u32 (bits .and .u32 ((v:Int) / ((2 ^ k:Nat):Int)) (m:Int)) (bits .and .u32 (v:Int) (m:Int)*((2 ^ k:Nat):Int) % 4294967296)=((sw k m v:Nat):Int):=by
 have h1:((v:Int) / ((2 ^ k:Nat):Int))=((v / 2 ^ k:Nat):Int):=(Int.natCast_ediv v (2 ^ k)).symm
 have h2:v / 2 ^ k < 4294967296:=Nat.lt_of_le_of_lt (Nat.div_le_self _ _) hv
 rw [h1,u32_and_nat _ _ h2 hm,u32_and_nat _ _ hv hm]
 have h3:(((v &&& m:Nat):Int)*((2 ^ k:Nat):Int) % 4294967296)=(((v &&& m)*2 ^ k % 4294967296:Nat):Int):=by rw [Int.natCast_emod,Int.natCast_mul];rfl
 rw [h3,u32_or_nat _ _ (Nat.and_lt_two_pow (n:=32) _ hm) (Nat.mod_lt _ (by decide))]
 rfl
def nats (bs:List Int):List Nat:=bs.map Int.toNat
theorem and1_u32 (r:Nat)(h:r < 4294967296):bits .and .u32 (r:Int) 1=((r % 2:Nat):Int):=by
 have:=u32_and_nat r 1 h (by decide)
 rw [nat_mask1] at this
 exact this
end Go.Proofs.YtfmjfgmbjdhogaaGreatDoor
