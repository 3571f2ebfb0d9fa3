import Derived.Test.YtfmjfgmbjdhogaaGreatDoorMb13
import Derived.Deep.CutBlock
set_option linter.unusedVariables false
set_option linter.unusedSimpArgs false
set_option maxRecDepth 20000
set_option maxHeartbeats 8000000
namespace Go.Proofs.YtfmjfgmbjdhogaaGreatDoor
open Go.RowKit
theorem span_any (s:Int)(w:World):Calls Tryz.prog 173 #[.int .i64 s] w fun e w'=>e = .returned (.tuple #[.int .i64 (spanL s:Int),.int .i64 (spanB s:Int)])∧w=w':=by
 by_cases h16:s=16
 ·subst h16
  go_enter Tryz.func173,Tryz.ntmps173
  go_wp2
  go_ret2
  exact ⟨rfl,rfl⟩
 ·by_cases h17:s=17
  ·subst h17
   go_enter Tryz.func173,Tryz.ntmps173
   go_wp2
   go_ret2
   exact ⟨rfl,rfl⟩
  ·by_cases h18:s=18
   ·subst h18
    go_enter Tryz.func173,Tryz.ntmps173
    go_wp2
    go_ret2
    exact ⟨rfl,rfl⟩
   ·have e1:spanL s=1:=by unfold spanL;rw [if_neg h16,if_neg h17,if_neg h18]
    have e2:spanB s=0:=by unfold spanB;rw [if_neg h16,if_neg h17,if_neg h18]
    rw [e1,e2]
    have g1:(s == 16)=false:=by simp;exact h16
    have g2:(s == 17)=false:=by simp;exact h17
    have g3:(s == 18)=false:=by simp;exact h18
    clear e1 e2 h16 h17 h18
    go_enter Tryz.func173,Tryz.ntmps173
    go_wp2
    go_ret2
    exact ⟨rfl,rfl⟩
def OwnI (w:World)(ao:Option Addr)(cap:Nat)(l:List Int):Prop:=w.ownsRow 0 3 1 (.slice ao l.length cap) l.length (l.map (.int .i64))
def ExtP (w:World)(ao:Option Addr)(cap:Nat)(l:List Int)(s x n:Int)(e:Ending)(w':World):Prop:=
 (okRun l s x∧((moreL l s x).length:Int)≤n∧∃ ao' cap',e = .returned (.tuple #[.slice ao' (moreL l s x).length cap',.bool true])∧OwnI w' ao' cap' (moreL l s x)∧Kept (OwnB (.slice ao l.length cap)) w w'∧
  (∀ k,(Value.slice ao' (moreL l s x).length cap').ownBlock=some k→(Value.slice ao l.length cap).ownBlock=some k∨w.heap.size≤k)) ∨
 (¬ (okRun l s x∧((moreL l s x).length:Int)≤n)∧e = .returned (.tuple #[.slice none 0 0,.bool false])∧Kept NoB w w')
theorem ExtP.no {w w':World}{ao:Option Addr}{cap:Nat}{l:List Int}{s x n:Int}(h:¬ (okRun l s x∧((moreL l s x).length:Int)≤n))(hk:Kept NoB w w'):ExtP w ao cap l s x n (.returned (.tuple #[.slice none 0 0,.bool false])) w' := .inr ⟨h,rfl,hk⟩
theorem ext16_any (ao:Option Addr)(cap:Nat)(l:List Int)(s x n:Int)(w:World)(hown:OwnI w ao cap l)(hn:0≤n∧n≤1000)(hl:(l.length:Int)≤n)(hs:0≤s∧s≤18)(hs1:s=16):
  Calls Tryz.prog 185 #[.slice ao l.length cap,.agg #[.int .i64 s,.int .i64 x],.int .i64 n] w (ExtP w ao cap l s x n):=by
 subst hs1
 have HOwn:=Hd hown
 have HLen:=Hd (moreL_len l 16 x)
 obtain ⟨len,hlen⟩:∃ len,len=l.length:=⟨_,rfl⟩
 have hlN:(len:Int)≤n:=by omega
 have HNo:=Hd (fun (h:¬ (okRun l 16 x∧((moreL l 16 x).length:Int)≤n)) w' (hk:Kept NoB w w')=>ExtP.no (ao:=ao) (cap:=cap) h hk)
 have hkb:Kept NoB w (w.alloc (.cells #[.int .i64 16,.int .i64 x] 125)):=(Kept.refl _ _).alloc _
 have HKb:=Hd hkb
 have c0:(w.alloc (.cells #[.int .i64 16,.int .i64 x] 125)).cell? ⟨w.heap.size,0,none⟩=some (.int .i64 16):=cell_new 0 rfl
 have c1:(w.alloc (.cells #[.int .i64 16,.int .i64 x] 125)).cell? ⟨w.heap.size,1,none⟩=some (.int .i64 x):=cell_new 1 rfl
 clear hown hkb
 rw [← hlen]
 have HSp:=Hd (fun w=>span_any 16 w)
 obtain ⟨i0,hi,hz0,hz1,hz2⟩:=info_parts infoI
 have HSp0:((16:Int)=(16:Int)→spanL 16=3)∧((16:Int)=(16:Int)→spanB 16=2)∧((16:Int)=(16:Int)→spanM 16=3):=⟨fun _=>rfl,fun _=>rfl,fun _=>rfl⟩
 have hL:spanL 16=3:=HSp0.1 rfl
 have hB:spanB 16=2:=HSp0.2.1 rfl
 have hM:spanM 16=3:=HSp0.2.2 rfl
 rw [hL,hB] at HSp
 have HLn2:Hid (∀ k:Nat,x=(k:Int)→(moreL l 16 x).length=len+(3+k)):=fun k hk=>by rw [HLen.out,hL,hlen,hk];rfl
 have HM:=Hd hM
 by_cases hx:x < 0∨3 < x
 ·have hno:¬ (okRun l 16 x∧((moreL l 16 x).length:Int)≤n):=fun h=>by
   have h1:=h.1.2.2.1
   have h2:=h.1.2.2.2.1
   rw [HM.out] at h2
   omega
  have HNo2:=Hd (HNo.out hno)
  clear hno HNo hL hB hM HSp0 hlen HLen HLn2
  rcases hx with hx1 | hx2
  ·have hd:decide (x < 0)=true:=decide_eq_true hx1
   go_enter Tryz.func185,Tryz.ntmps185
   go_wp2_with fail
   refine (HSp.out _).mono ?_
   rintro e w2 ⟨rfl,rfl⟩
   go_upto_region 4 with fail
   go_quiet (fail)
   go_wp2
   go_ret2
   exact HNo2.out _ (by have:=HKb.out;exact this.drewN _)
  ·have hd:decide (x < 0)=false:=decide_eq_false (by omega)
   have hd2:decide (4≤x)=true:=decide_eq_true (by omega)
   go_enter Tryz.func185,Tryz.ntmps185
   go_wp2_with fail
   refine (HSp.out _).mono ?_
   rintro e w2 ⟨rfl,rfl⟩
   go_upto_region 4 with fail
   go_quiet (fail)
   go_wp2
   go_ret2
   exact HNo2.out _ (by have:=HKb.out;exact this.drewN _)
 ·obtain ⟨k,rfl⟩:∃ k:Nat,x=(k:Int):=⟨x.toNat,by omega⟩
  have hln:=HLn2.out k rfl
  have hkM:k≤3:=by omega
  have hd:decide ((k:Int) < 0)=false:=decide_eq_false (by omega)
  have hd2:decide (4≤(k:Int))=false:=decide_eq_false (by omega)
  clear hx HLn2
  by_cases hfit:len+(3+k)≤n.toNat
  ·have hd3:decide (n - (len:Int) < 3+(k:Int))=false:=decide_eq_false (by omega)
   by_cases hl0:l=[]
   ·have hno:¬ (okRun l 16 (k:Int)∧((moreL l 16 (k:Int)).length:Int)≤n):=fun h=>h.1.2.2.2.2 rfl hl0
    have HNo2:=Hd (HNo.out hno)
    have hlen0:len=0:=by rw [hlen,hl0];rfl
    subst hlen0
    have hd4:decide (n < 3+(k:Int))=false:=decide_eq_false (by omega)
    clear hno HNo hfit hln hL hB hM HSp0 hl0 hlen HLen
    go_enter Tryz.func185,Tryz.ntmps185
    go_wp2_with fail
    refine (HSp.out _).mono ?_
    rintro e w2 ⟨rfl,rfl⟩
    go_upto_region 4 with fail
    go_quiet (fail)
    go_wp2
    go_ret2
    exact HNo2.out _ (by have:=HKb.out;exact this.drewN _)
   ·obtain ⟨q,hq⟩:∃ q:Nat,q=len - 1:=⟨_,rfl⟩
    have hlpos:0 < len:=by rw [hlen];exact List.length_pos_iff.2 hl0
    obtain ⟨z,hz⟩:∃ z,z=l.getD (l.length - 1) 0:=⟨_,rfl⟩
    have hqi:(len:Int) - 1=(q:Int):=by omega
    have hcq:∃ g,ao=some ⟨g,0,none⟩∧w.cell? ⟨g,q,none⟩=some (.int .i64 z):=by
     rcases HOwn.out.2 with ⟨_,h0⟩ | ⟨g,c,cur,hv,_⟩
     ·rw [← hlen] at h0;omega
     ·simp at hv
      obtain ⟨rfl,rfl⟩:=hv
      refine ⟨g,rfl,?_⟩
      have:=HOwn.out.cellAt q (by rw [← hlen];omega)
      rw [this,hz,hq,hlen]
      simp [List.getD,show l.length - 1 < l.length by omega]
    obtain ⟨g,rfl,hcq⟩:=hcq
    have hgs:g < w.heap.size:=World.block_lt_of_cell? w ⟨g,q,none⟩ hcq
    have hgne:¬ g=w.heap.size:=by omega
    have hgne2:¬ w.heap.size=g:=by omega
    have hql:q < len:=by omega
    have hv:valS l 16=z:=by rw [hz];unfold valS;rw [if_pos rfl]
    have hok:okRun l 16 (k:Int)∧((moreL l 16 (k:Int)).length:Int)≤n:=⟨⟨hs.1,hs.2,by omega,by rw [hM];omega,(fun _=>hl0)⟩,by rw [hln];omega⟩
    have hmore:moreL l 16 (k:Int)=l++List.replicate (3+k) z:=by unfold moreL;rw [hL,hv];rfl
    obtain ⟨NN,hNN⟩:∃ NN,NN=3+k:=⟨_,rfl⟩
    rw [← hNN] at hmore
    have hadd:(3:Int)+(k:Int)=(NN:Int):=by omega
    rw [hadd] at hd3
    have hN1:1≤NN∧NN≤1000:=by omega
    have hln3:(moreL l 16 (k:Int)).length=len+NN:=by rw [hln,hNN]
    have HOk:=Hd hok;have HMore:=Hd hmore;have HLn3:=Hd hln3
    have hfit2:len+NN≤1000:=by omega
    have HLe:=Hd hlen
    clear hz hq hl0 hok hmore hln hln3 hNN hfit hL hB hM HSp0 hv HNo HLen hlen
    go_enter Tryz.func185,Tryz.ntmps185
    go_wp2_with fail
    refine (HSp.out _).mono ?_
    rintro e w2 ⟨rfl,rfl⟩
    go_upto_region 4 with fail
    go_quiet (fail)
    have hrep:=fun W (h:W.cell? ⟨w.heap.size+1,0,none⟩=some (.int .i64 z))=>repeat_any (w.heap.size+1) z NN W h hN1
    go_wp2_with fail
    refine (hrep _ (cell_new (k:=w.heap.size+1) 0 (by simp [World.drewN]))).mono ?_
    rintro e w5 ⟨G,rfl,hG,hGle,hB5⟩
    have hk5:Kept NoB w w5:=((HKb.out.drewN _).alloc _).ofBelow hB5
    have hownW:w5.ownsRow 0 3 1 (.slice (some ⟨g,0,none⟩) len cap) len (l.map (.int .i64)):=by rw [HLe.out];exact hk5.row HOwn.out (fun _ _ h=>h)
    have hc2:∀ j u,(List.replicate NN (Value.int .i64 z))[j]?=some u→w5.cell? ((⟨G,0,none⟩:Addr).add j)=some u:=by
     intro j u hj
     have hjl:j < NN:=by have:=(List.getElem?_eq_some_iff.1 hj).1;simpa using this
     rw [addr_add,Nat.zero_add,cell_of_row _ G j _ _ (0,0) hG.out]
     rw [List.getElem?_toArray];exact hj
    have HK5:=Hd hk5;have HOW:=Hd hownW;have HC2:=Hd hc2
    clear hk5 hownW hc2 hB5 hGle hrep hG
    go_wp2_with (at_builtin;refine wpList_app _ rfl _ _ 30 rfl 3 i0 (.int .i64 0) 1 8 Tryz.underlying30 hi hz0 hz1 hz2 rfl (by decide) _ len (l.map (.int .i64)) rfl HOW.out ⟨G,0,none⟩ NN NN (List.replicate NN (Value.int .i64 z)) rfl ?c1 HC2.out ?c3 ?c4 ?c5 ?_)
    case c1=>simp
    case c3=>intro u hu;rw [List.eq_of_mem_replicate hu];rfl
    case c4=>unfold maxLen;omega
    case c5=>omega
    intro v' w6 hown' hgrow hnew
    obtain ⟨ao2,cap2,rfl⟩:=own_shape hown'
    have hmap:l.map (Value.int .i64)++List.replicate NN (Value.int .i64 z)=(moreL l 16 (k:Int)).map (.int .i64):=by rw [HMore.out];simp
    have hk6:Kept (OwnB (.slice (some ⟨g,0,none⟩) l.length cap)) w w6:=(HK5.out.mono (T:=OwnB (.slice (some ⟨g,0,none⟩) l.length cap)) (fun _ _ h=>h.elim)).grown hgrow (fun k _ e=>by rw [← HLe.out];exact e)
    have hn6:∀ k,(Value.slice ao2 (len+NN) cap2).ownBlock=some k→(Value.slice (some ⟨g,0,none⟩) l.length cap).ownBlock=some k∨w.heap.size≤k:=by
     intro k hk
     rcases hnew k hk with h | h
     ·left;rw [← HLe.out];exact h
     ·right;have:=HK5.out.size;omega
    rw [hmap,← HLn3.out] at hown'
    rw [← HLn3.out] at hn6
    have HO6:=Hd hown';have HK6:=Hd hk6;have HN6:=Hd hn6
    clear hown' hk6 hn6 hgrow hnew hmap
    go_wp2
    go_ret2
    refine .inl ⟨HOk.out.1,HOk.out.2,ao2,cap2,?_,HO6.out,HK6.out,HN6.out⟩
    rw [HLn3.out]
    rfl
  ·have hno:¬ (okRun l 16 (k:Int)∧((moreL l 16 (k:Int)).length:Int)≤n):=fun h=>by
    have:=h.2
    rw [hln] at this
    omega
   have HNo2:=Hd (HNo.out hno)
   have hd3:decide (n - (len:Int) < 3+(k:Int))=true:=decide_eq_true (by omega)
   clear hno HNo hfit hln hL hB hM HSp0 hlen HLen
   go_enter Tryz.func185,Tryz.ntmps185
   go_wp2_with fail
   refine (HSp.out _).mono ?_
   rintro e w2 ⟨rfl,rfl⟩
   go_upto_region 4 with fail
   go_quiet (fail)
   go_wp2
   go_ret2
   exact HNo2.out _ (by have:=HKb.out;exact this.drewN _)
theorem ext17_any (ao:Option Addr)(cap:Nat)(l:List Int)(s x n:Int)(w:World)(hown:OwnI w ao cap l)(hn:0≤n∧n≤1000)(hl:(l.length:Int)≤n)(hs:0≤s∧s≤18)(hs1:s=17):
  Calls Tryz.prog 185 #[.slice ao l.length cap,.agg #[.int .i64 s,.int .i64 x],.int .i64 n] w (ExtP w ao cap l s x n):=by
 subst hs1
 have HOwn:=Hd hown
 have HLen:=Hd (moreL_len l 17 x)
 obtain ⟨len,hlen⟩:∃ len,len=l.length:=⟨_,rfl⟩
 have hlN:(len:Int)≤n:=by omega
 have HNo:=Hd (fun (h:¬ (okRun l 17 x∧((moreL l 17 x).length:Int)≤n)) w' (hk:Kept NoB w w')=>ExtP.no (ao:=ao) (cap:=cap) h hk)
 have hkb:Kept NoB w (w.alloc (.cells #[.int .i64 17,.int .i64 x] 125)):=(Kept.refl _ _).alloc _
 have HKb:=Hd hkb
 have c0:(w.alloc (.cells #[.int .i64 17,.int .i64 x] 125)).cell? ⟨w.heap.size,0,none⟩=some (.int .i64 17):=cell_new 0 rfl
 have c1:(w.alloc (.cells #[.int .i64 17,.int .i64 x] 125)).cell? ⟨w.heap.size,1,none⟩=some (.int .i64 x):=cell_new 1 rfl
 clear hown hkb
 rw [← hlen]
 have HSp:=Hd (fun w=>span_any 17 w)
 obtain ⟨i0,hi,hz0,hz1,hz2⟩:=info_parts infoI
 have HSp1:((17:Int)=(17:Int)→spanL 17=3)∧((17:Int)=(17:Int)→spanB 17=3)∧((17:Int)=(17:Int)→spanM 17=7):=⟨fun _=>rfl,fun _=>rfl,fun _=>rfl⟩
 have hL:spanL 17=3:=HSp1.1 rfl
 have hB:spanB 17=3:=HSp1.2.1 rfl
 have hM:spanM 17=7:=HSp1.2.2 rfl
 rw [hL,hB] at HSp
 have HLn2:Hid (∀ k:Nat,x=(k:Int)→(moreL l 17 x).length=len+(3+k)):=fun k hk=>by rw [HLen.out,hL,hlen,hk];rfl
 have HM:=Hd hM
 by_cases hx:x < 0∨7 < x
 ·have hno:¬ (okRun l 17 x∧((moreL l 17 x).length:Int)≤n):=fun h=>by
   have h1:=h.1.2.2.1
   have h2:=h.1.2.2.2.1
   rw [HM.out] at h2
   omega
  have HNo2:=Hd (HNo.out hno)
  clear hno HNo hL hB hM HSp1 hlen HLen HLn2
  rcases hx with hx1 | hx2
  ·have hd:decide (x < 0)=true:=decide_eq_true hx1
   go_enter Tryz.func185,Tryz.ntmps185
   go_wp2_with fail
   refine (HSp.out _).mono ?_
   rintro e w2 ⟨rfl,rfl⟩
   go_upto_region 4 with fail
   go_quiet (fail)
   go_wp2
   go_ret2
   exact HNo2.out _ (by have:=HKb.out;exact this.drewN _)
  ·have hd:decide (x < 0)=false:=decide_eq_false (by omega)
   have hd2:decide (8≤x)=true:=decide_eq_true (by omega)
   go_enter Tryz.func185,Tryz.ntmps185
   go_wp2_with fail
   refine (HSp.out _).mono ?_
   rintro e w2 ⟨rfl,rfl⟩
   go_upto_region 4 with fail
   go_quiet (fail)
   go_wp2
   go_ret2
   exact HNo2.out _ (by have:=HKb.out;exact this.drewN _)
 ·obtain ⟨k,rfl⟩:∃ k:Nat,x=(k:Int):=⟨x.toNat,by omega⟩
  have hln:=HLn2.out k rfl
  have hkM:k≤7:=by omega
  have hd:decide ((k:Int) < 0)=false:=decide_eq_false (by omega)
  have hd2:decide (8≤(k:Int))=false:=decide_eq_false (by omega)
  clear hx HLn2
  by_cases hfit:len+(3+k)≤n.toNat
  ·have hd3:decide (n - (len:Int) < 3+(k:Int))=false:=decide_eq_false (by omega)
   have hv:valS l 17=0:=by unfold valS;rw [if_neg (by omega),if_pos (by omega)]
   have hok:okRun l 17 (k:Int)∧((moreL l 17 (k:Int)).length:Int)≤n:=⟨⟨hs.1,hs.2,by omega,by rw [hM];omega,(fun h=>by omega)⟩,by rw [hln];omega⟩
   have hmore:moreL l 17 (k:Int)=l++List.replicate (3+k) 0:=by unfold moreL;rw [hL,hv];rfl
   obtain ⟨NN,hNN⟩:∃ NN,NN=3+k:=⟨_,rfl⟩
   rw [← hNN] at hmore
   have hadd:(3:Int)+(k:Int)=(NN:Int):=by omega
   rw [hadd] at hd3
   have hN1:1≤NN∧NN≤1000:=by omega
   have hln3:(moreL l 17 (k:Int)).length=len+NN:=by rw [hln,hNN]
   have HOk:=Hd hok;have HMore:=Hd hmore;have HLn3:=Hd hln3
   have hfit2:len+NN≤1000:=by omega
   have HLe:=Hd hlen
   clear hok hmore hln hln3 hNN hfit hL hB hM HSp1 hv HNo HLen hlen
   go_enter Tryz.func185,Tryz.ntmps185
   go_wp2_with fail
   refine (HSp.out _).mono ?_
   rintro e w2 ⟨rfl,rfl⟩
   go_upto_region 4 with fail
   go_quiet (fail)
   have hrep:=fun W (h:W.cell? ⟨w.heap.size+1,0,none⟩=some (.int .i64 0))=>repeat_any (w.heap.size+1) 0 NN W h hN1
   go_wp2_with fail
   refine (hrep _ (cell_new (k:=w.heap.size+1) 0 (by simp [World.drewN]))).mono ?_
   rintro e w5 ⟨G,rfl,hG,hGle,hB5⟩
   have hk5:Kept NoB w w5:=((HKb.out.drewN _).alloc _).ofBelow hB5
   have hownW:w5.ownsRow 0 3 1 (.slice ao len cap) len (l.map (.int .i64)):=by rw [HLe.out];exact hk5.row HOwn.out (fun _ _ h=>h)
   have hc2:∀ j u,(List.replicate NN (Value.int .i64 0))[j]?=some u→w5.cell? ((⟨G,0,none⟩:Addr).add j)=some u:=by
    intro j u hj
    have hjl:j < NN:=by have:=(List.getElem?_eq_some_iff.1 hj).1;simpa using this
    rw [addr_add,Nat.zero_add,cell_of_row _ G j _ _ (0,0) hG.out]
    rw [List.getElem?_toArray];exact hj
   have HK5:=Hd hk5;have HOW:=Hd hownW;have HC2:=Hd hc2
   clear hk5 hownW hc2 hB5 hGle hrep hG
   go_wp2_with (at_builtin;refine wpList_app _ rfl _ _ 30 rfl 3 i0 (.int .i64 0) 1 8 Tryz.underlying30 hi hz0 hz1 hz2 rfl (by decide) _ len (l.map (.int .i64)) rfl HOW.out ⟨G,0,none⟩ NN NN (List.replicate NN (Value.int .i64 0)) rfl ?c1 HC2.out ?c3 ?c4 ?c5 ?_)
   case c1=>simp
   case c3=>intro u hu;rw [List.eq_of_mem_replicate hu];rfl
   case c4=>unfold maxLen;omega
   case c5=>omega
   intro v' w6 hown' hgrow hnew
   obtain ⟨ao2,cap2,rfl⟩:=own_shape hown'
   have hmap:l.map (Value.int .i64)++List.replicate NN (Value.int .i64 0)=(moreL l 17 (k:Int)).map (.int .i64):=by rw [HMore.out];simp
   have hk6:Kept (OwnB (.slice ao l.length cap)) w w6:=(HK5.out.mono (T:=OwnB (.slice ao l.length cap)) (fun _ _ h=>h.elim)).grown hgrow (fun k _ e=>by rw [← HLe.out];exact e)
   have hn6:∀ k,(Value.slice ao2 (len+NN) cap2).ownBlock=some k→(Value.slice ao l.length cap).ownBlock=some k∨w.heap.size≤k:=by
    intro k hk
    rcases hnew k hk with h | h
    ·left;rw [← HLe.out];exact h
    ·right;have:=HK5.out.size;omega
   rw [hmap,← HLn3.out] at hown'
   rw [← HLn3.out] at hn6
   have HO6:=Hd hown';have HK6:=Hd hk6;have HN6:=Hd hn6
   clear hown' hk6 hn6 hgrow hnew hmap
   go_wp2
   go_ret2
   refine .inl ⟨HOk.out.1,HOk.out.2,ao2,cap2,?_,HO6.out,HK6.out,HN6.out⟩
   rw [HLn3.out]
   rfl
  ·have hno:¬ (okRun l 17 (k:Int)∧((moreL l 17 (k:Int)).length:Int)≤n):=fun h=>by
    have:=h.2
    rw [hln] at this
    omega
   have HNo2:=Hd (HNo.out hno)
   have hd3:decide (n - (len:Int) < 3+(k:Int))=true:=decide_eq_true (by omega)
   clear hno HNo hfit hln hL hB hM HSp1 hlen HLen
   go_enter Tryz.func185,Tryz.ntmps185
   go_wp2_with fail
   refine (HSp.out _).mono ?_
   rintro e w2 ⟨rfl,rfl⟩
   go_upto_region 4 with fail
   go_quiet (fail)
   go_wp2
   go_ret2
   exact HNo2.out _ (by have:=HKb.out;exact this.drewN _)
theorem ext18_any (ao:Option Addr)(cap:Nat)(l:List Int)(s x n:Int)(w:World)(hown:OwnI w ao cap l)(hn:0≤n∧n≤1000)(hl:(l.length:Int)≤n)(hs:0≤s∧s≤18)(hs1:s=18):
  Calls Tryz.prog 185 #[.slice ao l.length cap,.agg #[.int .i64 s,.int .i64 x],.int .i64 n] w (ExtP w ao cap l s x n):=by
 subst hs1
 have HOwn:=Hd hown
 have HLen:=Hd (moreL_len l 18 x)
 obtain ⟨len,hlen⟩:∃ len,len=l.length:=⟨_,rfl⟩
 have hlN:(len:Int)≤n:=by omega
 have HNo:=Hd (fun (h:¬ (okRun l 18 x∧((moreL l 18 x).length:Int)≤n)) w' (hk:Kept NoB w w')=>ExtP.no (ao:=ao) (cap:=cap) h hk)
 have hkb:Kept NoB w (w.alloc (.cells #[.int .i64 18,.int .i64 x] 125)):=(Kept.refl _ _).alloc _
 have HKb:=Hd hkb
 have c0:(w.alloc (.cells #[.int .i64 18,.int .i64 x] 125)).cell? ⟨w.heap.size,0,none⟩=some (.int .i64 18):=cell_new 0 rfl
 have c1:(w.alloc (.cells #[.int .i64 18,.int .i64 x] 125)).cell? ⟨w.heap.size,1,none⟩=some (.int .i64 x):=cell_new 1 rfl
 clear hown hkb
 rw [← hlen]
 have HSp:=Hd (fun w=>span_any 18 w)
 obtain ⟨i0,hi,hz0,hz1,hz2⟩:=info_parts infoI
 have HSp2:((18:Int)=(18:Int)→spanL 18=11)∧((18:Int)=(18:Int)→spanB 18=7)∧((18:Int)=(18:Int)→spanM 18=127):=⟨fun _=>rfl,fun _=>rfl,fun _=>rfl⟩
 have hL:spanL 18=11:=HSp2.1 rfl
 have hB:spanB 18=7:=HSp2.2.1 rfl
 have hM:spanM 18=127:=HSp2.2.2 rfl
 rw [hL,hB] at HSp
 have HLn2:Hid (∀ k:Nat,x=(k:Int)→(moreL l 18 x).length=len+(11+k)):=fun k hk=>by rw [HLen.out,hL,hlen,hk];rfl
 have HM:=Hd hM
 by_cases hx:x < 0∨127 < x
 ·have hno:¬ (okRun l 18 x∧((moreL l 18 x).length:Int)≤n):=fun h=>by
   have h1:=h.1.2.2.1
   have h2:=h.1.2.2.2.1
   rw [HM.out] at h2
   omega
  have HNo2:=Hd (HNo.out hno)
  clear hno HNo hL hB hM HSp2 hlen HLen HLn2
  rcases hx with hx1 | hx2
  ·have hd:decide (x < 0)=true:=decide_eq_true hx1
   go_enter Tryz.func185,Tryz.ntmps185
   go_wp2_with fail
   refine (HSp.out _).mono ?_
   rintro e w2 ⟨rfl,rfl⟩
   go_upto_region 4 with fail
   go_quiet (fail)
   go_wp2
   go_ret2
   exact HNo2.out _ (by have:=HKb.out;exact this.drewN _)
  ·have hd:decide (x < 0)=false:=decide_eq_false (by omega)
   have hd2:decide (128≤x)=true:=decide_eq_true (by omega)
   go_enter Tryz.func185,Tryz.ntmps185
   go_wp2_with fail
   refine (HSp.out _).mono ?_
   rintro e w2 ⟨rfl,rfl⟩
   go_upto_region 4 with fail
   go_quiet (fail)
   go_wp2
   go_ret2
   exact HNo2.out _ (by have:=HKb.out;exact this.drewN _)
 ·obtain ⟨k,rfl⟩:∃ k:Nat,x=(k:Int):=⟨x.toNat,by omega⟩
  have hln:=HLn2.out k rfl
  have hkM:k≤127:=by omega
  have hd:decide ((k:Int) < 0)=false:=decide_eq_false (by omega)
  have hd2:decide (128≤(k:Int))=false:=decide_eq_false (by omega)
  clear hx HLn2
  by_cases hfit:len+(11+k)≤n.toNat
  ·have hd3:decide (n - (len:Int) < 11+(k:Int))=false:=decide_eq_false (by omega)
   have hv:valS l 18=0:=by unfold valS;rw [if_neg (by omega),if_pos (by omega)]
   have hok:okRun l 18 (k:Int)∧((moreL l 18 (k:Int)).length:Int)≤n:=⟨⟨hs.1,hs.2,by omega,by rw [hM];omega,(fun h=>by omega)⟩,by rw [hln];omega⟩
   have hmore:moreL l 18 (k:Int)=l++List.replicate (11+k) 0:=by unfold moreL;rw [hL,hv];rfl
   obtain ⟨NN,hNN⟩:∃ NN,NN=11+k:=⟨_,rfl⟩
   rw [← hNN] at hmore
   have hadd:(11:Int)+(k:Int)=(NN:Int):=by omega
   rw [hadd] at hd3
   have hN1:1≤NN∧NN≤1000:=by omega
   have hln3:(moreL l 18 (k:Int)).length=len+NN:=by rw [hln,hNN]
   have HOk:=Hd hok;have HMore:=Hd hmore;have HLn3:=Hd hln3
   have hfit2:len+NN≤1000:=by omega
   have HLe:=Hd hlen
   clear hok hmore hln hln3 hNN hfit hL hB hM HSp2 hv HNo HLen hlen
   go_enter Tryz.func185,Tryz.ntmps185
   go_wp2_with fail
   refine (HSp.out _).mono ?_
   rintro e w2 ⟨rfl,rfl⟩
   go_upto_region 4 with fail
   go_quiet (fail)
   have hrep:=fun W (h:W.cell? ⟨w.heap.size+1,0,none⟩=some (.int .i64 0))=>repeat_any (w.heap.size+1) 0 NN W h hN1
   go_wp2_with fail
   refine (hrep _ (cell_new (k:=w.heap.size+1) 0 (by simp [World.drewN]))).mono ?_
   rintro e w5 ⟨G,rfl,hG,hGle,hB5⟩
   have hk5:Kept NoB w w5:=((HKb.out.drewN _).alloc _).ofBelow hB5
   have hownW:w5.ownsRow 0 3 1 (.slice ao len cap) len (l.map (.int .i64)):=by rw [HLe.out];exact hk5.row HOwn.out (fun _ _ h=>h)
   have hc2:∀ j u,(List.replicate NN (Value.int .i64 0))[j]?=some u→w5.cell? ((⟨G,0,none⟩:Addr).add j)=some u:=by
    intro j u hj
    have hjl:j < NN:=by have:=(List.getElem?_eq_some_iff.1 hj).1;simpa using this
    rw [addr_add,Nat.zero_add,cell_of_row _ G j _ _ (0,0) hG.out]
    rw [List.getElem?_toArray];exact hj
   have HK5:=Hd hk5;have HOW:=Hd hownW;have HC2:=Hd hc2
   clear hk5 hownW hc2 hB5 hGle hrep hG
   go_wp2_with (at_builtin;refine wpList_app _ rfl _ _ 30 rfl 3 i0 (.int .i64 0) 1 8 Tryz.underlying30 hi hz0 hz1 hz2 rfl (by decide) _ len (l.map (.int .i64)) rfl HOW.out ⟨G,0,none⟩ NN NN (List.replicate NN (Value.int .i64 0)) rfl ?c1 HC2.out ?c3 ?c4 ?c5 ?_)
   case c1=>simp
   case c3=>intro u hu;rw [List.eq_of_mem_replicate hu];rfl
   case c4=>unfold maxLen;omega
   case c5=>omega
   intro v' w6 hown' hgrow hnew
   obtain ⟨ao2,cap2,rfl⟩:=own_shape hown'
   have hmap:l.map (Value.int .i64)++List.replicate NN (Value.int .i64 0)=(moreL l 18 (k:Int)).map (.int .i64):=by rw [HMore.out];simp
   have hk6:Kept (OwnB (.slice ao l.length cap)) w w6:=(HK5.out.mono (T:=OwnB (.slice ao l.length cap)) (fun _ _ h=>h.elim)).grown hgrow (fun k _ e=>by rw [← HLe.out];exact e)
   have hn6:∀ k,(Value.slice ao2 (len+NN) cap2).ownBlock=some k→(Value.slice ao l.length cap).ownBlock=some k∨w.heap.size≤k:=by
    intro k hk
    rcases hnew k hk with h | h
    ·left;rw [← HLe.out];exact h
    ·right;have:=HK5.out.size;omega
   rw [hmap,← HLn3.out] at hown'
   rw [← HLn3.out] at hn6
   have HO6:=Hd hown';have HK6:=Hd hk6;have HN6:=Hd hn6
   clear hown' hk6 hn6 hgrow hnew hmap
   go_wp2
   go_ret2
   refine .inl ⟨HOk.out.1,HOk.out.2,ao2,cap2,?_,HO6.out,HK6.out,HN6.out⟩
   rw [HLn3.out]
   rfl
  ·have hno:¬ (okRun l 18 (k:Int)∧((moreL l 18 (k:Int)).length:Int)≤n):=fun h=>by
    have:=h.2
    rw [hln] at this
    omega
   have HNo2:=Hd (HNo.out hno)
   have hd3:decide (n - (len:Int) < 11+(k:Int))=true:=decide_eq_true (by omega)
   clear hno HNo hfit hln hL hB hM HSp2 hlen HLen
   go_enter Tryz.func185,Tryz.ntmps185
   go_wp2_with fail
   refine (HSp.out _).mono ?_
   rintro e w2 ⟨rfl,rfl⟩
   go_upto_region 4 with fail
   go_quiet (fail)
   go_wp2
   go_ret2
   exact HNo2.out _ (by have:=HKb.out;exact this.drewN _)
theorem ext15_any (ao:Option Addr)(cap:Nat)(l:List Int)(s x n:Int)(w:World)(hown:OwnI w ao cap l)(hn:0≤n∧n≤1000)(hl:(l.length:Int)≤n)(hs:0≤s∧s≤18)(hs1:s≤15):
  Calls Tryz.prog 185 #[.slice ao l.length cap,.agg #[.int .i64 s,.int .i64 x],.int .i64 n] w (ExtP w ao cap l s x n):=by
 have HOwn:=Hd hown
 have HLen:=Hd (moreL_len l s x)
 obtain ⟨len,hlen⟩:∃ len,len=l.length:=⟨_,rfl⟩
 have hlN:(len:Int)≤n:=by omega
 have HNo:=Hd (fun (h:¬ (okRun l s x∧((moreL l s x).length:Int)≤n)) w' (hk:Kept NoB w w')=>ExtP.no (ao:=ao) (cap:=cap) h hk)
 have hkb:Kept NoB w (w.alloc (.cells #[.int .i64 s,.int .i64 x] 125)):=(Kept.refl _ _).alloc _
 have HKb:=Hd hkb
 have c0:(w.alloc (.cells #[.int .i64 s,.int .i64 x] 125)).cell? ⟨w.heap.size,0,none⟩=some (.int .i64 s):=cell_new 0 rfl
 have c1:(w.alloc (.cells #[.int .i64 s,.int .i64 x] 125)).cell? ⟨w.heap.size,1,none⟩=some (.int .i64 x):=cell_new 1 rfl
 clear hown hkb
 rw [← hlen]
 have HSp:=Hd (fun w=>span_any s w)
 obtain ⟨i0,hi,hz0,hz1,hz2⟩:=info_parts infoI
 have HSp3:(s≤15→spanL s=1)∧(s≤15→spanB s=0)∧(s≤15→spanM s=0):=by
  refine ⟨fun h=>?_,fun h=>?_,fun h=>?_⟩
  ·unfold spanL;rw [if_neg (by omega),if_neg (by omega),if_neg (by omega)]
  ·unfold spanB;rw [if_neg (by omega),if_neg (by omega),if_neg (by omega)]
  ·unfold spanM;rw [if_neg (by omega),if_neg (by omega),if_neg (by omega)]
 have hL:spanL s=1:=HSp3.1 hs1
 have hB:spanB s=0:=HSp3.2.1 hs1
 have hM:spanM s=0:=HSp3.2.2 hs1
 rw [hL,hB] at HSp
 have HLn2:Hid (∀ k:Nat,x=(k:Int)→(moreL l s x).length=len+(1+k)):=fun k hk=>by rw [HLen.out,hL,hlen,hk];rfl
 have HM:=Hd hM
 by_cases hx:x < 0∨0 < x
 ·have hno:¬ (okRun l s x∧((moreL l s x).length:Int)≤n):=fun h=>by
   have h1:=h.1.2.2.1
   have h2:=h.1.2.2.2.1
   rw [HM.out] at h2
   omega
  have HNo2:=Hd (HNo.out hno)
  clear hno HNo hL hB hM HSp3 hlen HLen HLn2
  rcases hx with hx1 | hx2
  ·have hd:decide (x < 0)=true:=decide_eq_true hx1
   go_enter Tryz.func185,Tryz.ntmps185
   go_wp2_with fail
   refine (HSp.out _).mono ?_
   rintro e w2 ⟨rfl,rfl⟩
   go_upto_region 4 with fail
   go_quiet (fail)
   go_wp2
   go_ret2
   exact HNo2.out _ (by have:=HKb.out;exact this.drewN _)
  ·have hd:decide (x < 0)=false:=decide_eq_false (by omega)
   have hd2:decide (1≤x)=true:=decide_eq_true (by omega)
   go_enter Tryz.func185,Tryz.ntmps185
   go_wp2_with fail
   refine (HSp.out _).mono ?_
   rintro e w2 ⟨rfl,rfl⟩
   go_upto_region 4 with fail
   go_quiet (fail)
   go_wp2
   go_ret2
   exact HNo2.out _ (by have:=HKb.out;exact this.drewN _)
 ·obtain ⟨k,rfl⟩:∃ k:Nat,x=(k:Int):=⟨x.toNat,by omega⟩
  have hln:=HLn2.out k rfl
  have hkM:k≤0:=by omega
  have hd:decide ((k:Int) < 0)=false:=decide_eq_false (by omega)
  have hd2:decide (1≤(k:Int))=false:=decide_eq_false (by omega)
  clear hx HLn2
  by_cases hfit:len+(1+k)≤n.toNat
  ·have hd3:decide (n - (len:Int) < 1+(k:Int))=false:=decide_eq_false (by omega)
   have hv:valS l s=s:=by unfold valS;rw [if_neg (by omega),if_neg (by omega)]
   have hok:okRun l s (k:Int)∧((moreL l s (k:Int)).length:Int)≤n:=⟨⟨hs.1,hs.2,by omega,by rw [hM];omega,(fun h=>by omega)⟩,by rw [hln];omega⟩
   have hmore:moreL l s (k:Int)=l++List.replicate (1+k) s:=by unfold moreL;rw [hL,hv];rfl
   obtain ⟨NN,hNN⟩:∃ NN,NN=1+k:=⟨_,rfl⟩
   rw [← hNN] at hmore
   have hadd:(1:Int)+(k:Int)=(NN:Int):=by omega
   rw [hadd] at hd3
   have hN1:1≤NN∧NN≤1000:=by omega
   have hln3:(moreL l s (k:Int)).length=len+NN:=by rw [hln,hNN]
   have HOk:=Hd hok;have HMore:=Hd hmore;have HLn3:=Hd hln3
   have hfit2:len+NN≤1000:=by omega
   have HLe:=Hd hlen
   clear hok hmore hln hln3 hNN hfit hL hB hM HSp3 hv HNo HLen hlen
   go_enter Tryz.func185,Tryz.ntmps185
   go_wp2_with fail
   refine (HSp.out _).mono ?_
   rintro e w2 ⟨rfl,rfl⟩
   go_upto_region 4 with fail
   go_quiet (fail)
   have hrep:=fun W (h:W.cell? ⟨w.heap.size+1,0,none⟩=some (.int .i64 s))=>repeat_any (w.heap.size+1) s NN W h hN1
   go_wp2_with fail
   refine (hrep _ (cell_new (k:=w.heap.size+1) 0 (by simp [World.drewN]))).mono ?_
   rintro e w5 ⟨G,rfl,hG,hGle,hB5⟩
   have hk5:Kept NoB w w5:=((HKb.out.drewN _).alloc _).ofBelow hB5
   have hownW:w5.ownsRow 0 3 1 (.slice ao len cap) len (l.map (.int .i64)):=by rw [HLe.out];exact hk5.row HOwn.out (fun _ _ h=>h)
   have hc2:∀ j u,(List.replicate NN (Value.int .i64 s))[j]?=some u→w5.cell? ((⟨G,0,none⟩:Addr).add j)=some u:=by
    intro j u hj
    have hjl:j < NN:=by have:=(List.getElem?_eq_some_iff.1 hj).1;simpa using this
    rw [addr_add,Nat.zero_add,cell_of_row _ G j _ _ (0,0) hG.out]
    rw [List.getElem?_toArray];exact hj
   have HK5:=Hd hk5;have HOW:=Hd hownW;have HC2:=Hd hc2
   clear hk5 hownW hc2 hB5 hGle hrep hG
   go_wp2_with (at_builtin;refine wpList_app _ rfl _ _ 30 rfl 3 i0 (.int .i64 0) 1 8 Tryz.underlying30 hi hz0 hz1 hz2 rfl (by decide) _ len (l.map (.int .i64)) rfl HOW.out ⟨G,0,none⟩ NN NN (List.replicate NN (Value.int .i64 s)) rfl ?c1 HC2.out ?c3 ?c4 ?c5 ?_)
   case c1=>simp
   case c3=>intro u hu;rw [List.eq_of_mem_replicate hu];rfl
   case c4=>unfold maxLen;omega
   case c5=>omega
   intro v' w6 hown' hgrow hnew
   obtain ⟨ao2,cap2,rfl⟩:=own_shape hown'
   have hmap:l.map (Value.int .i64)++List.replicate NN (Value.int .i64 s)=(moreL l s (k:Int)).map (.int .i64):=by rw [HMore.out];simp
   have hk6:Kept (OwnB (.slice ao l.length cap)) w w6:=(HK5.out.mono (T:=OwnB (.slice ao l.length cap)) (fun _ _ h=>h.elim)).grown hgrow (fun k _ e=>by rw [← HLe.out];exact e)
   have hn6:∀ k,(Value.slice ao2 (len+NN) cap2).ownBlock=some k→(Value.slice ao l.length cap).ownBlock=some k∨w.heap.size≤k:=by
    intro k hk
    rcases hnew k hk with h | h
    ·left;rw [← HLe.out];exact h
    ·right;have:=HK5.out.size;omega
   rw [hmap,← HLn3.out] at hown'
   rw [← HLn3.out] at hn6
   have HO6:=Hd hown';have HK6:=Hd hk6;have HN6:=Hd hn6
   clear hown' hk6 hn6 hgrow hnew hmap
   go_wp2
   go_ret2
   refine .inl ⟨HOk.out.1,HOk.out.2,ao2,cap2,?_,HO6.out,HK6.out,HN6.out⟩
   rw [HLn3.out]
   rfl
  ·have hno:¬ (okRun l s (k:Int)∧((moreL l s (k:Int)).length:Int)≤n):=fun h=>by
    have:=h.2
    rw [hln] at this
    omega
   have HNo2:=Hd (HNo.out hno)
   have hd3:decide (n - (len:Int) < 1+(k:Int))=true:=decide_eq_true (by omega)
   clear hno HNo hfit hln hL hB hM HSp3 hlen HLen
   go_enter Tryz.func185,Tryz.ntmps185
   go_wp2_with fail
   refine (HSp.out _).mono ?_
   rintro e w2 ⟨rfl,rfl⟩
   go_upto_region 4 with fail
   go_quiet (fail)
   go_wp2
   go_ret2
   exact HNo2.out _ (by have:=HKb.out;exact this.drewN _)
theorem extended_any (ao:Option Addr)(cap:Nat)(l:List Int)(s x n:Int)(w:World)(hown:OwnI w ao cap l)(hn:0≤n∧n≤1000)(hl:(l.length:Int)≤n):
  Calls Tryz.prog 185 #[.slice ao l.length cap,.agg #[.int .i64 s,.int .i64 x],.int .i64 n] w (ExtP w ao cap l s x n):=by
 by_cases hs:0≤s∧s≤18
 ·have hc:s=16∨s=17∨s=18∨s≤15:=by omega
  rcases hc with h | h | h | h
  ·exact ext16_any ao cap l s x n w hown hn hl hs h
  ·exact ext17_any ao cap l s x n w hown hn hl hs h
  ·exact ext18_any ao cap l s x n w hown hn hl hs h
  ·exact ext15_any ao cap l s x n w hown hn hl hs h
 ·have hno:¬ (okRun l s x∧((moreL l s x).length:Int)≤n):=fun h=>hs ⟨h.1.1,h.1.2.1⟩
  have HNo2:=Hd (fun w' (hk:Kept NoB w w')=>ExtP.no (ao:=ao) (cap:=cap) hno hk)
  have hkb:Kept NoB w (w.alloc (.cells #[.int .i64 s,.int .i64 x] 125)):=(Kept.refl _ _).alloc _
  have HKb:=Hd hkb
  have c0:(w.alloc (.cells #[.int .i64 s,.int .i64 x] 125)).cell? ⟨w.heap.size,0,none⟩=some (.int .i64 s):=cell_new 0 rfl
  clear hown hkb
  have hc:s < 0∨(¬ s < 0∧19≤s):=by omega
  clear hs hno
  rcases hc with h | ⟨h1,h2⟩
  all_goals
   go_enter Tryz.func185,Tryz.ntmps185
   go_wp2
   go_ret2
   exact HNo2.out _ HKb.out
def RdRn (w:World)(B:Nat)(ao:Option Addr)(rs:List (Int × Int)):Prop:=
 ∀ i,i < rs.length→∃ g off,ao=some ⟨g,off,none⟩∧g < B∧w.cell? ⟨g,off+i*2,none⟩=some (.int .i64 (rs.getD i (0,0)).1)∧w.cell? ⟨g,off+i*2+1,none⟩=some (.int .i64 (rs.getD i (0,0)).2)
theorem drop_getDz (bs:List Int)(j:Nat)(hj:j < bs.length):bs.drop j=bs.getD j 0 :: bs.drop (j+1):=by
 rw [List.drop_eq_getElem_cons hj];simp [List.getD,hj]
theorem own_readsI {w:World}{base n cap:Nat}{ao:Option Addr}{zs:List Int}(h:w.ownsRow base 3 1 (.slice ao n cap) n (zs.map (.int .i64)))(hn:zs.length=n):RdI w w.heap.size ao zs:=by
 intro i hi
 rcases h.2 with ⟨_,hz⟩ | ⟨g,c,cur,hv,_⟩
 ·omega
 ·simp at hv
  obtain ⟨rfl,rfl⟩:=hv
  have hc:w.cell? ⟨g,i,none⟩=some (.int .i64 (zs.getD i 0)):=by
   rw [h.cellAt i (by omega)];simp [List.getD,hi]
  exact ⟨g,0,rfl,World.block_lt_of_cell? w _ hc,by rw [Nat.zero_add];exact hc⟩
theorem OwnI.reads {w:World}{a:Option Addr}{c:Nat}{l:List Int}(h:OwnI w a c l):RdI w w.heap.size a l:=own_readsI h rfl
theorem lit_readsI {w:World}{cs:Array Value}(zs:List Int)(hc:cs.toList=zs.map (.int .i64)):RdI (w.alloc (.cells cs 3)) (w.alloc (.cells cs 3)).heap.size (some ⟨w.heap.size,0,none⟩) zs:=by
 intro i hi
 refine ⟨w.heap.size,0,rfl,by simp,?_⟩
 rw [Nat.zero_add,cell_new i rfl,← Array.getElem?_toList,hc]
 simp [List.getD,hi]
theorem own_lt {w:World}{base e z n:Nat}{v:Value}{xs:List Value}(ho:w.ownsRow base e z v n xs):∀ k,v.ownBlock=some k→k < w.heap.size:=by
 intro k hk
 rcases ho.2 with ⟨rfl,_⟩ | ⟨g,cap',cur,rfl,hbg,hg,_⟩
 ·simp [Value.ownBlock] at hk
 ·simp [Value.ownBlock] at hk
  exact hk ▸ obj_lt hg
theorem Kept.transP {S T:Nat→Prop}{a b c:World}(h:Kept S a b)(k:Kept T b c)(hs:∀ i,i < a.heap.size→T i→S i):Kept S a c:=
 ⟨k.os.trans h.os,k.tape.trans h.tape,k.output.trans h.output,Nat.le_trans h.size k.size,fun i hi hn=>(k.block i (Nat.lt_of_lt_of_le hi h.size) (fun t=>hn (hs i hi t))).trans (h.block i hi hn)⟩
theorem spanL_pos (s:Int):1≤spanL s:=by unfold spanL;split <;> (try split) <;> (try split) <;> decide
theorem spanB_le (s:Int):spanB s≤7:=by unfold spanB;split <;> (try split) <;> (try split) <;> decide
def RowRP (code bs:List Int)(N p R:Nat)(ao:Option Addr)(cap:Nat)(w:World)(e:Ending)(w':World):Prop:=
 ∃ (a:Option Addr) (c:Nat) (l:List Int) (f:Int) (q q':Nat),e = .returned (.tuple #[.slice a l.length c,.int .i64 f])∧RowR code bs N p [] q l f∧Rdr w' R ao cap bs q'∧(f=0→q'=q)∧OwnI w' a c l∧Kept (OneB R) w w'∧
  (∀ k,(Value.slice a l.length c).ownBlock=some k→w.heap.size≤k)
theorem readRow_any (code:List Int)(D R N:Nat)(S:Nat→Prop)(ao:Option Addr)(cap:Nat)(bs:List Int)(p:Nat)(w:World)(hd:DecG code D S w)(hr:Rdr w R ao cap bs p)(hSR:¬ S R)(hSw:∀ k,S k→k < w.heap.size)(hs:Small 15 code)(hl:code.length≤320)(hN:N≤400):
  Calls Tryz.prog 176 #[.pointer (some ⟨R,0,none⟩),.pointer (some ⟨D,0,none⟩),.int .i64 (N:Int)] w (RowRP code bs N p R ao cap w):=by
 have HD:=Hd hd;have HR:=Hd hr;have HS:=Hd hs
 have hRw:=obj_lt hr.1
 have hAw:∀ k,(Value.slice ao bs.length cap).ownBlock=some k→k < w.heap.size:=fun k hk=>own_lt hr.2.1 k hk
 have HAw:=Hd hAw
 obtain ⟨L8,hL8⟩:∃ L8,L8=8*bs.length:=⟨_,rfl⟩
 have HL8:=Hd hL8
 clear hd hr hs hAw hL8
 go_enter Tryz.func176,Tryz.ntmps176
 go_wp2_with fail
 go_loopw [8,9,10,11,12,13,14] (fun v8 _ _ _ _ _ _ wr=>∃ (a:Option Addr) (c:Nat) (l:List Int) (p':Nat),v8 = .slice a l.length c∧l.length≤N∧Hid (OwnI wr a c l)∧Hid (∀ k,(Value.slice a l.length c).ownBlock=some k→w.heap.size≤k)∧Hid (Rdr wr R ao cap bs p')∧Hid (Kept (OneB R) w wr)∧
  Hid (∀ q l' f,RowR code bs N p' l q l' f→RowR code bs N p [] q l' f)) (fun v8 _ _ _ _ _ _ _=>match v8 with | .slice _ m _=>N - m | _=>0)
 case atStart=>exact ⟨none,0,[],p,rfl,by simp,Hd (World.ownsRow_nil _ _ _ _),Hd (fun k hk=>by simp [Value.ownBlock] at hk),HR,Hd (Kept.refl _ _),Hd (fun _ _ _ h=>h)⟩
 case round=>
  obtain ⟨a,c,l,p',rfl,hlN,HO,HF,HRr,HK,HP⟩:=hrel
  by_cases hlt:(l.length:Int) < N
  ·obtain ⟨T,hT⟩:∃ T:Nat,min3 15 (8*bs.length - p')=T:=by
    have:=HRr.out.2.2.2.1
    obtain ⟨T,h,_⟩:=min3_at (8*bs.length) p' this
    exact ⟨T,by simpa using h⟩
   have hrc:=read_callsG code D S R ao cap bs p' T wr (HD.out.kept HK.out (fun k h e=>hSR (by unfold OneB at e;exact e ▸ h))) HRr.out hSR HS.out hl hT
   have HRc:=Hd hrc;have HT:=Hd hT
   obtain ⟨m,hm⟩:∃ m,m=l.length:=⟨_,rfl⟩
   have HM:=Hd hm
   have hlN2:l.length < N:=by omega
   have HlN:=Hd hlN2
   rw [← hm] at hlt hlN HF ⊢
   clear hrc hT hm hlN2
   go_wp2_with fail
   with_reducible refine HRc.out.mono ?_
   rintro e w1 ⟨s,f,q,rfl,hrs,hr1,hk1⟩
   have hkw:=HK.out.trans hk1
   have hst:=hrs.step
   have hro:∀ k,(Value.slice a m c).ownBlock=some k→¬ OneB R k:=fun k h e=>by have:=HF.out k h;unfold OneB at e;omega
   have hown1:OwnI w1 a c l:=hk1.row HO.out (by rw [← HM.out];exact hro)
   have HRs:=Hd hrs;have HR1:=Hd hr1;have HKw:=Hd hkw;have HO1:=Hd hown1
   clear hrs hr1 hkw hro hown1 hk1 HRc HRr HO HK
   by_cases hf:f=0
   ·subst hf
    obtain ⟨x,hx⟩:∃ x,x=bitsAt bs q (spanB s):=⟨_,rfl⟩
    have hx7:x < 128:=by
     have h1:=bitsAt_lt bs q (spanB s)
     have h2:=Nat.pow_le_pow_right (n:=2) (by decide) (spanB_le s)
     rw [hx];exact Nat.lt_of_lt_of_le h1 h2
    have HX:=Hd hx
    clear hx hst
    go_wp2_with fail
    with_reducible refine (span_any s _).mono ?_
    rintro e w2 ⟨rfl,rfl⟩
    by_cases hfit:q+spanB s≤8*bs.length
    ·have htk:=take_yes w1 R ao cap bs q (spanB s) HR1.out (by have:=spanB_le s;omega) hfit
     rw [← HX.out] at htk
     have HTk:=Hd htk;have HFit:=Hd hfit
     clear htk hfit
     go_wp2_with fail
     with_reducible refine HTk.out.mono ?_
     rintro e w3 ⟨rfl,hr3,hk3⟩
     have hown3:OwnI w3 a c l:=hk3.row HO1.out (fun k h e=>by have:=HF.out k (by rw [HM.out];exact h);unfold OneB at e;omega)
     have hex:=extended_any a c l s (x:Int) (N:Int) w3 hown3 (by omega) (by have:=HlN.out;omega)
     rw [← HM.out] at hex
     have HEx:=Hd hex;have HR3:=Hd hr3;have HK3:=Hd (HKw.out.trans hk3)
     have wx:IntKind.i64.wrap (x:Int)=(x:Int):=IntWalk.i64_in _ (by omega)
     clear hex hown3 hr3 hk3 HTk HR1 HKw HO1
     go_wp2_with fail
     with_reducible refine HEx.out.mono ?_
     rintro e w4 (⟨hok,hN4,a',c',rfl,hown4,hk4,hnew⟩ | ⟨hno,rfl,hk4⟩)
     ·have hl4:=moreL_len l s (x:Int)
      have hsp:=spanL_pos s
      have hb4:∀ k,(Value.slice a' (moreL l s (x:Int)).length c').ownBlock=some k→w.heap.size≤k:=fun k h=>by
       rcases hnew k h with h | h
       ·exact HF.out k (by rw [HM.out];exact h)
       ·exact Nat.le_trans HK3.out.size h
      have hr4:Rdr w4 R ao cap bs (q+spanB s):=HR3.out.kept hk4 (fun h=>by have:=HF.out R (by rw [HM.out];exact h);omega) (fun k h e=>by have:=HAw.out k h;have:=HF.out k (by rw [HM.out];exact e);omega)
      have hk5:Kept (OneB R) w w4:=HK3.out.transP hk4 (fun i hi h=>by have:=HF.out i (by rw [HM.out];exact h);omega)
      have hp5:∀ q2 l' f,RowR code bs N (q+spanB s) (moreL l s (x:Int)) q2 l' f→RowR code bs N p [] q2 l' f:=fun q2 l' f h=>HP.out q2 l' f (.step HlN.out HT.out HRs.out HFit.out (by rw [← HX.out];exact hok) (by rw [← HX.out];exact hN4) (by rw [← HX.out];exact h))
      obtain ⟨L,hL⟩:∃ L,L=moreL l s (x:Int):=⟨_,rfl⟩
      rw [← hL] at hown4 hb4 hp5 hl4 hN4 ⊢
      have hml:m < L.length:=by have:=HM.out;omega
      have hml2:L.length≤N:=by omega
      obtain ⟨ml,hmm⟩:∃ ml,ml=L.length:=⟨_,rfl⟩
      have HMM:=Hd hmm
      rw [← hmm] at hml hml2 hb4 ⊢
      have HO4:=Hd hown4;have HF4:=Hd hb4;have HR4:=Hd hr4;have HK4:=Hd hk5;have HP4:=Hd hp5
      clear hown4 hb4 hr4 hk5 hp5 hl4 hN4 hL hmm hok hnew hk4 hsp
      go_wp2
      go_roundw
      case rel=>exact ⟨a',c',L,_,by rw [HMM.out],by rw [← HMM.out];exact hml2,HO4,by rw [← HMM.out];exact HF4,HR4,HK4,HP4⟩
      case measure=>simp;omega
     ·have HR4:=Hd (HR3.out.keptNo hk4)
      have HK4:=Hd (HK3.out.transP hk4 (fun i hi h=>h.elim))
      have HB:=Hd (HP.out p' [] 6 (.bad HlN.out HT.out HRs.out HFit.out (by rw [← HX.out];exact hno)))
      clear hk4 hno
      go_wp2
      go_ret2
      exact ⟨none,0,[],6,p',q+spanB s,rfl,HB.out,HR4.out,fun h=>absurd h (by decide),World.ownsRow_nil _ _ _ _,HK4.out,fun k h=>by simp [Value.ownBlock] at h⟩
    ·have htk:=take_no w1 R ao cap bs q (spanB s) HR1.out (.inr (.inr (by omega)))
     have HTk:=Hd htk
     have HB:=Hd (HP.out p' [] 2 (.short HlN.out HT.out HRs.out (by omega)))
     clear htk hfit
     go_wp2_with fail
     with_reducible refine HTk.out.mono ?_
     rintro e w3 ⟨rfl,hk3⟩
     have HR4:=Hd (HR1.out.keptNo hk3)
     have HK4:=Hd (HKw.out.transP hk3 (fun i hi h=>h.elim))
     clear hk3
     go_wp2
     go_ret2
     exact ⟨none,0,[],2,p',q,rfl,HB.out,HR4.out,fun h=>absurd h (by decide),World.ownsRow_nil _ _ _ _,HK4.out,fun k h=>by simp [Value.ownBlock] at h⟩
   ·have hf2:(f == 0)=false:=by simp [hf]
    have HB:=Hd (HP.out p' [] f (.fail HlN.out HT.out HRs.out hf))
    have HFn:=Hd hf
    clear hst
    go_wp2
    go_ret2
    exact ⟨none,0,[],f,p',q,rfl,HB.out,HR1.out,fun h=>absurd h HFn.out,World.ownsRow_nil _ _ _ _,HKw.out,fun k h=>by simp [Value.ownBlock] at h⟩
  ·have HB:=Hd (HP.out p' l 0 (.done (by omega)))
   have hlt2:¬ (l.length:Int) < N:=by omega
   obtain ⟨m,hm⟩:∃ m,m=l.length:=⟨_,rfl⟩
   have HM:=Hd hm
   rw [← hm] at hlt hlt2 HF hlN ⊢
   clear hm
   go_wp2
   go_ret2
   exact ⟨a,c,l,0,p',p',by rw [HM.out];rfl,HB.out,HRr.out,fun _=>rfl,HO.out,HK.out,by rw [← HM.out];exact HF.out⟩
end Go.Proofs.YtfmjfgmbjdhogaaGreatDoor
