import Derived.Test.YtfmjfgmbjdhogaaGreatDoorMb37
set_option linter.unusedVariables false
set_option linter.unusedSimpArgs false
set_option maxRecDepth 20000
set_option maxHeartbeats 8000000
namespace Go.Proofs.YtfmjfgmbjdhogaaGreatDoor
open Go.RowKit
def zeroG:GzP:=⟨false,false,false,[],[],[],0,0,0⟩
theorem zeroG_ok:zeroG.Ok:=⟨by decide,by decide,by decide,(by show (0:Nat)≤_;decide),fun _=>rfl,(by show (0:Nat)≤_;decide),(by show (0:Nat)≤_;decide),(by intro h;cases h),(by intro h;cases h)⟩
set_option maxHeartbeats 32000000 in
theorem gzipBack_walk (t x s:Bool)(a:Option Addr)(n k:Nat)(E:List Int)(N C:List UInt8)(tm xf os:Int)(bo:Option Addr)(bl bc_:Nat)(b:List Int)(level at_ bit:Int)(w:World)(hT:DeB w)(hA:CurRow w a k E)(hn:n=E.length)(hB:CurRow w bo bc_ b)(hbl:bl=b.length)
  (hlv : -9223372036854775808≤level∧level≤9223372036854775807) (hbit : -9223372036854775808≤bit∧bit≤9223372036854775807) (nz cz:Nat) (hnz:nz=N.length) (hcz:cz=C.length) (hnm:nz≤9223372036854775807) (hcm:cz≤9223372036854775807):
  Calls Tryz.prog 8 #[.agg #[.bool t,.bool x,.bool s,.slice a n k,.string (strB N),.string (strB C),.int .i64 tm,.int .i64 xf,.int .i64 os],.slice bo bl bc_,.int .i64 level,.int .i64 at_,.int .i64 bit] w fun e w'=>e = .returned (.bool true)∧Below w.heap.size w w':=by
 have HAw:=Hd (fun (W:World)=>awake11_any W)
 obtain ⟨X,hX⟩:∃ X,X=w.heap.size:=⟨_,rfl⟩
 obtain ⟨SN,hSN⟩:∃ S,S=strB N:=⟨_,rfl⟩
 obtain ⟨SC,hSC⟩:∃ S,S=strB C:=⟨_,rfl⟩
 have hsn:SN.size=nz:=by rw [hSN,strB_size,hnz]
 have hsc:SC.size=cz:=by rw [hSC,strB_size,hcz]
 have HTm:=Hd (fun (W:World) (hk:Kept NoB w W)=>tame11_any W t x s a n k E N C tm xf os ⟨hA.rd.keptNo hk,hA.all,hA.cap,hA.most,hA.nil⟩ hn)
 rw [← hSN,← hSC] at HTm ⊢
 have HT:=Hd hT;have HA:=Hd hA;have HN:=Hd hn;have HB:=Hd hB;have HBl:=Hd hbl;have HX:=Hd hX;have HSN:=Hd hSN;have HSC:=Hd hSC;have HNz:=Hd hnz;have HCz:=Hd hcz
 clear hT hA hn hB hbl hX hSN hSC hnz hcz
 go_enter Tryz.func8,Tryz.ntmps8
 go_upto_region 1 with fail
 have hx0:(w.alloc (.cells #[.bool t,.bool x,.bool s,.slice a n k,.string SN,.string SC,.int .i64 tm,.int .i64 xf,.int .i64 os] 42)).heap[w.heap.size]?=some (.cells #[.bool t,.bool x,.bool s,.slice a n k,.string SN,.string SC,.int .i64 tm,.int .i64 xf,.int .i64 os] 42 (0,0)):=heap_alloc_new _ _
 have hk0:Kept NoB w (w.alloc (.cells #[.bool t,.bool x,.bool s,.slice a n k,.string SN,.string SC,.int .i64 tm,.int .i64 xf,.int .i64 os] 42)):=(Kept.refl _ _).alloc _
 rw [← HX.out] at hx0 ⊢
 generalize (w.alloc (.cells #[.bool t,.bool x,.bool s,.slice a n k,.string SN,.string SC,.int .i64 tm,.int .i64 xf,.int .i64 os] 42))=w1 at hx0 hk0 ⊢
 have c3:w1.cell? ⟨X,3,none⟩=some (.slice a n k):=obj_cell hx0 3
 have c4:w1.cell? ⟨X,4,none⟩=some (.string SN):=obj_cell hx0 4
 have c5:w1.cell? ⟨X,5,none⟩=some (.string SC):=obj_cell hx0 5
 have HX0:=Hd hx0;have HK0:=Hd hk0
 have hawk:∀ W,Kept NoB w W→Calls Tryz.prog 15 #[] W fun e w'=>e = .returned (.bool true)∧Below w.heap.size w w':=fun W hk=>(HAw.out W).mono (fun e w' h=>⟨h.1,(hk.trans h.2).belowNo (Below.refl _ _)⟩)
 have HAk:=Hd hawk
 clear hx0 hk0 hawk
 by_cases h1:200 < bl
 ·have g1:(200:Int) < (bl:Int):=by omega
  go_wp2_with fail
  refine (HAk.out _ HK0.out).mono ?_
  rintro e w2 ⟨rfl,hb2⟩
  have HB2:=Hd hb2
  clear hb2
  go_wp2
  go_ret
  exact ⟨rfl,HB2.out⟩
 ·have g1:¬ (200:Int) < (bl:Int):=by omega
  by_cases h2:200 < n
  ·have g2:(200:Int) < (n:Int):=by omega
   go_wp2_with fail
   refine (HAk.out _ HK0.out).mono ?_
   rintro e w2 ⟨rfl,hb2⟩
   have HB2:=Hd hb2
   clear hb2
   go_wp2
   go_ret
   exact ⟨rfl,HB2.out⟩
  ·have g2:¬ (200:Int) < (n:Int):=by omega
   by_cases h3:1100 < nz
   ·have g3:(1100:Int) < (nz:Int):=by omega
    go_wp2_with fail
    refine (HAk.out _ HK0.out).mono ?_
    rintro e w2 ⟨rfl,hb2⟩
    have HB2:=Hd hb2
    clear hb2
    go_wp2
    go_ret
    exact ⟨rfl,HB2.out⟩
   ·have g3:¬ (1100:Int) < (nz:Int):=by omega
    by_cases h4:1100 < cz
    ·have g4:(1100:Int) < (cz:Int):=by omega
     go_wp2_with fail
     refine (HAk.out _ HK0.out).mono ?_
     rintro e w2 ⟨rfl,hb2⟩
     have HB2:=Hd hb2
     clear hb2
     go_wp2
     go_ret
     exact ⟨rfl,HB2.out⟩
    ·have g4:¬ (1100:Int) < (cz:Int):=by omega
     go_upto_region 3 with fail
     clear c3 c4 c5
     obtain ⟨arr,harr⟩:∃ arr:Array Value,arr=#[.bool t,.bool x,.bool s,.slice a n k,.string SN,.string SC,.int .i64 tm,.int .i64 xf,.int .i64 os]:=⟨_,rfl⟩
     have HTa:=HTm
     rw [← harr] at HTa HX0
     have HSz:Hid ((Tryz.prog.info? 42).map (·.size)=some arr.size):=Hd (by rw [harr];exact infoGz)
     have HSz2:Hid (arr.size=9):=Hd (by rw [harr];rfl)
     have HArr:=Hd harr
     clear harr HTm
     go_wp2_with (refine wpList_load_row rfl 42 (.tmp 5) rfl X rfl 42 arr (0,0) _ HX0.out Tryz.underlying42 rfl HSz.out ?_)
     refine (HTa.out _ HK0.out).mono ?_
     rintro e w2 ⟨a2,k2,rfl,hk2,hr2,hl2,hm2,hn2⟩
     have hgok:=tameG_ok t x s E N C tm xf os
     generalize tameG t x s E N C tm xf os=G at hr2 hl2 hm2 hn2 hgok ⊢
     have hx2:=hk2.obj HX0.out (fun h=>h)
     have HSz3:Hid ((Tryz.prog.info? 42).map (·.size)=some (gzV a2 k2 G).size):=Hd infoGz
     have HSz4:Hid (arr.size=(gzV a2 k2 G).size):=Hd (by rw [HSz2.out];rfl)
     have HOne:Hid ((gzV a2 k2 G).all (·.oneCell')=true):=Hd (by unfold gzV;rw [← Array.all_toList];rfl)
     have HX2:=Hd hx2
     have hx3:=setRow_heap w2 X _ (gzV a2 k2 G) _ _ hx2
     have hk3:Kept NoB w (w2.setRow X (gzV a2 k2 G)):=by
      have h:=HK0.out.trans hk2
      exact ⟨h.os,h.tape,h.output,by simpa [World.setRow] using h.size,fun i hi hs=>(setRow_other _ _ i _ (fun e=>by have h1:=HX.out;omega)).trans (h.block i hi hs)⟩
     have HX3:=Hd hx3;have HK3:=Hd hk3;have HR2:=Hd hr2;have HL2:=Hd hl2;have HM2:=Hd hm2;have HN2:=Hd hn2;have HGok:=Hd hgok
     clear hk2 hx2 hx3 hk3 hr2 hl2 hm2 hn2 hgok
     go_upto_region 4 with (refine wpList_store_row rfl 42 (.tmp 5) (.tmp 51) rfl X (gzV a2 k2 G) rfl rfl _ _ HX2.out HSz3.out HSz4.out HOne.out ?_)
     generalize w2.setRow X (gzV a2 k2 G)=w3 at HX3 HK3 ⊢
     clear HX2 HSz HSz2 HSz3 HSz4 HOne HTa HX0 HArr
     obtain ⟨u,hu⟩:∃ u:Nat,u=(at_ % 65536).toNat:=⟨_,rfl⟩
     have e1:bits .and .i64 at_ 65535=(u:Int):=(i64_mask at_ 16 (by decide)).trans (by show at_ % 65536=_;omega)
     obtain ⟨kk,hkk⟩:∃ q:Nat,q=u % (bl+1):=⟨_,rfl⟩
     have hkb:kk≤bl:=by have:=Nat.mod_lt u (show 0 < bl+1 by omega);omega
     have e2:(u:Int).tmod ((bl:Int)+1)=(kk:Int):=by rw [hkk];exact (Int.ofNat_tmod u (bl+1)).symm
     have hb10:¬ (bl:Int)+1=0:=by omega
     obtain ⟨lv,hlv2⟩:∃ u:Nat,u=(level % 16).toNat:=⟨_,rfl⟩
     have e3:bits .and .i64 level 15=(lv:Int):=(i64_mask level 4 (by decide)).trans (by show level % 16=_;omega)
     have hlvb:lv≤15:=by omega
     clear hu hkk hlv2
     go_upto_region 5 with fail
     have hcapB:bl≤bc_:=by rw [HBl.out];exact HB.out.cap
     obtain ⟨p1,hs1,hp1⟩:=slg_h bo bl bc_ kk b HBl.out hkb hcapB HB.out.nil
     obtain ⟨p2,hs2,hp2⟩:=slg_l bo bl bc_ kk b HBl.out hkb hcapB HB.out.nil
     obtain ⟨L,hL⟩:∃ L:List UInt8,L=un b:=⟨_,rfl⟩
     have hLn:nb L=b:=by rw [hL];exact nb_un HB.out.all
     have hLl:L.length=bl:=by rw [← nb_len,hLn,HBl.out]
     have HLn:=Hd hLn;have HLl:=Hd hLl;have HP1:=Hd hp1;have HP2:=Hd hp2
     clear hL hLn hLl hp1 hp2
     have hmem:∀ (W:World) (H:Nat),W.cell? ⟨H,0,none⟩=some (.slice p1 kk bc_)→W.cell? ⟨H,1,none⟩=some (.slice p2 (bl - kk) (bc_ - kk))→Kept NoB w3 W→Calls Tryz.prog 17 #[.agg #[.bool G.text,.bool G.hasx,.bool G.sum,.slice a2 G.extra.length k2,.string (strB G.name),.string (strB G.comm),.int .i64 G.time,.int .i64 G.xfl,.int .i64 G.os],.int .i64 (lv:Int),.slice (some ⟨H,0,none⟩) 2 2] W fun e w'=>∃ (a5:Option Addr) (m5 c5:Nat) (body:List UInt8) (qs:List (Nat × Nat)),e = .returned (.tuple #[.slice a5 m5 c5,.bool true])∧Hid (BySt w3 w' a5 m5 c5 (memB G L body))∧Hid (PackedP (lv:Int) L (nb body) qs):=by
      intro W H hc0 hc1 hk
      have hkw:=HK3.out.trans hk
      have hrB:=HB.out.rd.keptNo hkw
      have t1:nb (L.take kk)=b.take kk:=by rw [← HLn.out];unfold nb;rw [List.map_take]
      have t2:nb (L.drop kk)=b.drop kk:=by rw [← HLn.out];unfold nb;rw [List.map_drop]
      have l1:(L.take kk).length=kk:=by rw [List.length_take,HLl.out];omega
      have l2:(L.drop kk).length=bl - kk:=by rw [List.length_drop,HLl.out]
      have ef:[L.take kk,L.drop kk].flatten=L:=by simp
      have h:=member_yes W a2 k2 G (lv:Int) H 2 [L.take kk,L.drop kk] HGok.out (HR2.out W (HA.out.rd.keptNo hkw)) HL2.out HN2.out rfl (by decide) (fun W2 h2 j hj=>by
       have hj2:j=0∨j=1:=by omega
       have hrB2:=hrB.keptNo h2
       rcases hj2 with e | e
       ·subst e
        refine ⟨p1,bc_,?_,?_,fun h=>HB.out.nil (HP1.out.nil.1 h),?_,HB.out.most⟩
        ·rw [h2.cell hc0];show _=some (Value.slice p1 (L.take kk).length bc_);rw [l1]
        ·show Reads W2 p1 (nb (L.take kk));rw [t1];have:=HP1.out.reads W2 hrB2;simpa using this
        ·show (L.take kk).length≤bc_;rw [l1];omega
       ·subst e
        refine ⟨p2,bc_ - kk,?_,?_,fun h=>by have:=HB.out.nil (HP2.out.nil.1 h);omega,?_,by have:=HB.out.most;omega⟩
        ·rw [h2.cell hc1];show _=some (Value.slice p2 (L.drop kk).length (bc_ - kk));rw [l2]
        ·show Reads W2 p2 (nb (L.drop kk));rw [t2];have:=HP2.out.reads W2 hrB2;rw [List.take_of_length_le (by rw [List.length_drop,HBl.out];exact Nat.le_refl _)] at this;exact this
        ·show (L.drop kk).length≤bc_ - kk;rw [l2];omega) (by rw [ef,HLl.out];omega) (HT.out.kept hkw) (by omega)
      rw [ef] at h
      refine h.mono ?_
      rintro e2 w' ⟨a5,m5,c5,body,qs,rfl,hb,hp⟩
      exact ⟨a5,m5,c5,body,qs,rfl,Hd ⟨hb.out.len,hb.out.own,hk.trans hb.out.kept,fun j e=>Nat.le_trans hk.size (hb.out.fresh j e)⟩,hp⟩
     have HMem:=Hd hmem
     have hal:=((Kept.refl NoB w3).alloc (Obj.cells #[.slice p1 kk bc_,.slice p2 (bl - kk) (bc_ - kk)] 22)).obj HX3.out (fun h=>h)
     have i0:(w3.alloc (Obj.cells #[.slice p1 kk bc_,.slice p2 (bl - kk) (bc_ - kk)] 22)).cell? ⟨X,0,none⟩=some (.bool G.text):=obj_cell hal 0
     have i1:(w3.alloc (Obj.cells #[.slice p1 kk bc_,.slice p2 (bl - kk) (bc_ - kk)] 22)).cell? ⟨X,1,none⟩=some (.bool G.hasx):=obj_cell hal 1
     have i2:(w3.alloc (Obj.cells #[.slice p1 kk bc_,.slice p2 (bl - kk) (bc_ - kk)] 22)).cell? ⟨X,2,none⟩=some (.bool G.sum):=obj_cell hal 2
     have i3:(w3.alloc (Obj.cells #[.slice p1 kk bc_,.slice p2 (bl - kk) (bc_ - kk)] 22)).cell? ⟨X,3,none⟩=some (.slice a2 G.extra.length k2):=obj_cell hal 3
     have i4:(w3.alloc (Obj.cells #[.slice p1 kk bc_,.slice p2 (bl - kk) (bc_ - kk)] 22)).cell? ⟨X,4,none⟩=some (.string (strB G.name)):=obj_cell hal 4
     have i5:(w3.alloc (Obj.cells #[.slice p1 kk bc_,.slice p2 (bl - kk) (bc_ - kk)] 22)).cell? ⟨X,5,none⟩=some (.string (strB G.comm)):=obj_cell hal 5
     have i6:(w3.alloc (Obj.cells #[.slice p1 kk bc_,.slice p2 (bl - kk) (bc_ - kk)] 22)).cell? ⟨X,6,none⟩=some (.int .i64 G.time):=obj_cell hal 6
     have i7:(w3.alloc (Obj.cells #[.slice p1 kk bc_,.slice p2 (bl - kk) (bc_ - kk)] 22)).cell? ⟨X,7,none⟩=some (.int .i64 G.xfl):=obj_cell hal 7
     have i8:(w3.alloc (Obj.cells #[.slice p1 kk bc_,.slice p2 (bl - kk) (bc_ - kk)] 22)).cell? ⟨X,8,none⟩=some (.int .i64 G.os):=obj_cell hal 8
     have q0:w3.cell? ⟨X,0,none⟩=some (.bool G.text):=obj_cell HX3.out 0
     have q1:w3.cell? ⟨X,1,none⟩=some (.bool G.hasx):=obj_cell HX3.out 1
     have q2:w3.cell? ⟨X,2,none⟩=some (.bool G.sum):=obj_cell HX3.out 2
     have q3:w3.cell? ⟨X,3,none⟩=some (.slice a2 G.extra.length k2):=obj_cell HX3.out 3
     have q4:w3.cell? ⟨X,4,none⟩=some (.string (strB G.name)):=obj_cell HX3.out 4
     have q5:w3.cell? ⟨X,5,none⟩=some (.string (strB G.comm)):=obj_cell HX3.out 5
     have q6:w3.cell? ⟨X,6,none⟩=some (.int .i64 G.time):=obj_cell HX3.out 6
     have q7:w3.cell? ⟨X,7,none⟩=some (.int .i64 G.xfl):=obj_cell HX3.out 7
     have q8:w3.cell? ⟨X,8,none⟩=some (.int .i64 G.os):=obj_cell HX3.out 8
     clear hmem hal
     go_cut [12,13] from 58 to 71 (fun v12 v13 wx=>∃ (a5:Option Addr) (m5 c5:Nat) (body:List UInt8) (qs:List (Nat × Nat)),v12 = .slice a5 m5 c5∧v13 = .bool true∧Hid (BySt w3 wx a5 m5 c5 (memB G L body))∧Hid (PackedP (lv:Int) L (nb body) qs))
     case first=>
      go_region_with (go_at_call 17;((with_reducible refine (HMem.out _ _ ?_ ?_ ?_).mono ?_);(exact obj_cell (heap_alloc_new _ _) 0);(exact obj_cell (heap_alloc_new _ _) 1);(exact (((Kept.refl NoB w3).drewN _).alloc _));rintro e wn ⟨a5,m5,c5,body,qs,rfl,hbb,hpp⟩))
      all_goals (go_wp2_with fail;go_meet;exact ⟨a5,m5,c5,body,qs,rfl,rfl,hbb,hpp⟩)
     case rest=>
      obtain ⟨a5,m5,c5,body,qs,rfl,rfl,HM5,HPk⟩:=hcut
      obtain ⟨w4,rfl⟩:∃ z,z=wc:=⟨_,rfl⟩
      clear i0 i1 i2 i3 i4 i5 i6 i7 i8 q0 q1 q2 q3 q4 q5 q6 q7 q8 HMem hs1 hs2
      have hm5:18≤m5:=by
       rw [HM5.out.len]
       have:=headG_len G HGok.out
       unfold memB
       simp only [List.length_append,leB_len]
       omega
      have hm5b:m5≤70000+300:=by
       rw [HM5.out.len]
       have h1:=headG_len G HGok.out
       have h2:=HPk.out.len
       have h3:=HPk.out.few
       rw [nb_len] at h2
       have h4:=HLl.out
       unfold memB
       simp only [List.length_append,leB_len]
       omega
      have HKw4:=Hd (HK3.out.trans HM5.out.kept)
      have hmem2:∀ (W:World),Kept NoB w4 W→Calls Tryz.prog 17 #[.agg #[.bool false,.bool false,.bool false,.slice none 0 0,.string ⟨#[]⟩,.string ⟨#[]⟩,.int .i64 0,.int .i64 0,.int .i64 0],.int .i64 (lv:Int),.slice (some ⟨W.heap.size,0,none⟩) 1 1] (W.alloc (.cells #[.slice bo bl bc_] 22)) fun e w'=>∃ (a6:Option Addr) (m6 c6:Nat) (body:List UInt8) (qs:List (Nat × Nat)),e = .returned (.tuple #[.slice a6 m6 c6,.bool true])∧Hid (BySt w4 w' a6 m6 c6 (memB zeroG L body))∧Hid (PackedP (lv:Int) L (nb body) qs):=by
       intro W hk0
       have hk:Kept NoB w4 (W.alloc (.cells #[.slice bo bl bc_] 22)):=hk0.alloc _
       have hkw:=HKw4.out.trans hk
       have hc0:(W.alloc (.cells #[.slice bo bl bc_] 22)).cell? ⟨W.heap.size,0,none⟩=some (.slice bo bl bc_):=obj_cell (heap_alloc_new _ _) 0
       have ef:[L].flatten=L:=by simp
       have h:=member_yes (W.alloc (.cells #[.slice bo bl bc_] 22)) none 0 zeroG (lv:Int) W.heap.size 1 [L] zeroG_ok ⟨fun _=>rfl,fun a e=>by cases e⟩ (Nat.le_refl _) (fun _=>rfl) rfl (by decide) (fun W2 h2 j hj=>by
        have hj0:j=0:=by omega
        subst hj0
        refine ⟨bo,bc_,?_,?_,HB.out.nil,?_,HB.out.most⟩
        ·rw [h2.cell hc0];show _=some (Value.slice bo L.length bc_);rw [HLl.out]
        ·show Reads W2 bo (nb L);rw [HLn.out];exact HB.out.rd.keptNo (hkw.trans h2)
        ·show L.length≤bc_;rw [HLl.out];exact hcapB) (by rw [ef,HLl.out];omega) (HT.out.kept hkw) (by omega)
       rw [ef] at h
       refine h.mono ?_
       rintro e2 w' ⟨a5,m5,c5,body,qs,rfl,hb,hp⟩
       exact ⟨a5,m5,c5,body,qs,rfl,Hd ⟨hb.out.len,hb.out.own,hk.trans hb.out.kept,fun j e=>Nat.le_trans hk.size (hb.out.fresh j e)⟩,hp⟩
      have HMem2:=Hd hmem2
      clear hmem2
      go_wp2_with fail
      refine (HMem2.out _ (Kept.refl _ _)).mono ?_
      rintro e w5 ⟨a6,m6,c6,body6,qs6,rfl,HM6,HPk6⟩
      have h18:¬ (m5:Int) < 18:=by omega
      clear HMem2
      go_upto_region 9 with fail
      have hm6b:m6≤400:=by
       rw [HM6.out.len]
       have h1:(headG zeroG).length=10:=rfl
       have h2:=HPk6.out.len
       have h3:=HPk6.out.few
       rw [nb_len] at h2
       have h4:=HLl.out
       unfold memB
       simp only [List.length_append,leB_len]
       omega
      obtain ⟨g5,hg5⟩:=HM5.out.some (by intro e;have:=congrArg List.length e;simp [memB,leB_len] at this)
      subst hg5
      obtain ⟨g6,hg6⟩:=HM6.out.some (by intro e;have:=congrArg List.length e;simp [memB,leB_len] at this)
      subst hg6
      have HM5b:=Hd (HM5.out.on HM6.out.kept)
      have HBE:=Hd (by_empty (Kept.refl NoB w5))
      obtain ⟨M2,hM2⟩:∃ q:Nat,q=2*bl:=⟨_,rfl⟩
      have hM2i:2*(bl:Int)=(M2:Int):=by omega
      have hM2b:M2≤400:=by omega
      have HM2e:=Hd hM2
      clear hM2
      go_upto_region 10 with (first
       | (at_builtin;refine wpList_by_rowK rfl (.tmp 93) (.tmp 94) rfl HBE.out rfl ⟨g5,0,none⟩ c5 m5 _ HM5b.out.len rfl (HM5b.out.reads.keptNo ((Kept.refl NoB w5).alloc _)) (by omega) ?_;intro aa ca wa hba hka;rw [Nat.zero_add,List.nil_append] at hba;have HBa:=Hd hba;clear hba hka)
       | (at_builtin;refine wpList_by_rowK rfl (.tmp 95) (.tmp 96) rfl HBa.out rfl ⟨g6,0,none⟩ c6 m6 _ HM6.out.len rfl (HM6.out.reads.keptNo HBa.out.kept) (by omega) ?_;intro ab cb wb hbb hkb;have HBb:=Hd hbb;have HL3:=Hd (by_lit (Kept.refl NoB wb) [0,0,0] #[.int .u8 0,.int .u8 0,.int .u8 0] rfl 3 rfl (by decide));clear hbb hkb)
       | (at_builtin;refine wpList_by_rowK rfl (.tmp 97) (.tmp 98) rfl (HBb.out.on HL3.out.kept) rfl ⟨wb.heap.size,0,none⟩ 3 3 [0,0,0] rfl rfl HL3.out.reads (by omega) ?_;intro ac cc wd hbc hkc;have HBc:=Hd hbc;clear hbc hkc))
      have hok1:Mm.Ok ⟨G,L,body⟩:=mm_ok HGok.out HPk.out (by rw [HLl.out];omega)
      have hok2:Mm.Ok ⟨zeroG,L,body6⟩:=mm_ok zeroG_ok HPk6.out (by rw [HLl.out];omega)
      have hgo:GoG (nb (memB G L body++memB zeroG L body6++[0,0,0])) M2 0 [] [] 0 0 (L++L) [G,zeroG]:=by
       have h:=go_rows (M:=M2) (k:=3) [⟨G,L,body⟩,⟨zeroG,L,body6⟩] [] [] [] (by simp) (fun m hm=>by
        rcases List.mem_cons.1 hm with h | h
        ·rw [h];exact hok1
        ·rw [List.mem_singleton.1 h];exact hok2) (by simp;have:=HLl.out;have:=HM2e.out;omega)
       simpa [nb] using h
      have hcall:=gzall_any wd ac (m5+m6+3) cc _ (M2:Int) M2 0 0 (L++L) [G,zeroG] (by rw [nb_len];exact HBc.out.len) (CurRow.ofBy HBc.out) (by omega) rfl (by omega) hgo
      have HCall:=Hd hcall;have HOk1:=Hd hok1
      clear hok1 hok2 hgo hcall
      refine HCall.out.mono ?_
      rintro e w6 ⟨oa,ol,oc,h2a,hl2,hc2,es2,rfl,HG6,HM6e⟩
      clear HCall
      go_upto_region 10 with fail
      have HKw6:=Hd ((HKw4.out.trans HM6.out.kept).trans (HBc.out.kept.trans HG6.out.ob.kept))
      have HX6:=Hd (((HM5.out.kept.trans HM6.out.kept).trans (HBc.out.kept.trans HG6.out.ob.kept)).obj HX3.out (fun h=>h))
      have hl2e:hl2=2:=by
       have h1:=congrArg List.length HM6e.out
       rw [List.length_map] at h1
       rw [HG6.out.hs.len,h1];rfl
      subst hl2e
      have hlen2:0 < es2.length:=by rw [← HG6.out.hs.len];omega
      obtain ⟨gB,hgB,hcB⟩:=HG6.out.hs.cell 0 hlen2
      subst hgB
      have hgq:(es2[0]).g=G:=by
       have h:=List.getElem_of_eq HM6e.out (i:=0) (by rw [List.length_map];exact hlen2)
       simpa using h
      have hen:=HG6.out.en (es2[0]) (List.getElem_mem hlen2)
      have hya:=hen.nil
      have hyr:=hen.rd
      rw [hgq] at hcB hyr
      generalize (es2[0]).a=ya at hcB hya hyr
      generalize (es2[0]).k=yk at hcB hya
      have hsame:∀ W:World,Kept NoB w6 W→Calls Tryz.prog 19 #[.agg #[.bool G.text,.bool G.hasx,.bool G.sum,.slice ya G.extra.length yk,.string (strB G.name),.string (strB G.comm),.int .i64 G.time,.int .i64 G.xfl,.int .i64 G.os],.agg #[.bool G.text,.bool G.hasx,.bool G.sum,.slice a2 G.extra.length k2,.string (strB G.name),.string (strB G.comm),.int .i64 G.time,.int .i64 G.xfl,.int .i64 G.os]] W fun e w'=>e = .returned (.bool true)∧Hid (Kept NoB w6 w'):=fun W hk=>(samegz_yes W ya yk a2 k2 G (hyr.keptNo hk) hya (HR2.out W (HA.out.rd.keptNo (HKw6.out.trans hk))) HN2.out).mono (fun e w' h=>⟨h.1,Hd (hk.trans h.2)⟩)
      obtain ⟨S1,hS1⟩:∃ S,S=strB L:=⟨_,rfl⟩
      obtain ⟨S2,hS2⟩:∃ S,S=strB (L++L):=⟨_,rfl⟩
      have hS12:S1++S1=S2:=by rw [hS1,hS2,strB_app]
      have hS1s:S1.size≤200:=by rw [hS1,strB_size,HLl.out];omega
      have hcx:∀ W,Kept NoB w6 W→(convert 22 9 (.slice oa ol oc)).run Tryz.prog W = .ok (.string S2) W:=fun W hk=>by rw [hS2];exact conv_by (HG6.out.ob.on hk)
      have hcb:∀ W,Kept NoB w6 W→(convert 22 9 (.slice bo bl bc_)).run Tryz.prog W = .ok (.string S1) W:=fun W hk=>by
       rw [hS1,← nb_strG];exact conv_reads (by rw [HLn.out];exact HB.out.rd.keptNo (HKw6.out.trans hk)) (by rw [nb_len,HLl.out]) HB.out.nil
      have HCx:=Hd hcx;have HCb:=Hd hcb
      have b0:w6.cell? ⟨gB,0,none⟩=some (.bool G.text):=by have h:=hcB 0 (by decide);rw [Nat.zero_mul,Nat.zero_add] at h;exact h
      have b1:w6.cell? ⟨gB,1,none⟩=some (.bool G.hasx):=by have h:=hcB 1 (by decide);rw [Nat.zero_mul,Nat.zero_add] at h;exact h
      have b2:w6.cell? ⟨gB,2,none⟩=some (.bool G.sum):=by have h:=hcB 2 (by decide);rw [Nat.zero_mul,Nat.zero_add] at h;exact h
      have b3:w6.cell? ⟨gB,3,none⟩=some (.slice ya G.extra.length yk):=by have h:=hcB 3 (by decide);rw [Nat.zero_mul,Nat.zero_add] at h;exact h
      have b4:w6.cell? ⟨gB,4,none⟩=some (.string (strB G.name)):=by have h:=hcB 4 (by decide);rw [Nat.zero_mul,Nat.zero_add] at h;exact h
      have b5:w6.cell? ⟨gB,5,none⟩=some (.string (strB G.comm)):=by have h:=hcB 5 (by decide);rw [Nat.zero_mul,Nat.zero_add] at h;exact h
      have b6:w6.cell? ⟨gB,6,none⟩=some (.int .i64 G.time):=by have h:=hcB 6 (by decide);rw [Nat.zero_mul,Nat.zero_add] at h;exact h
      have b7:w6.cell? ⟨gB,7,none⟩=some (.int .i64 G.xfl):=by have h:=hcB 7 (by decide);rw [Nat.zero_mul,Nat.zero_add] at h;exact h
      have b8:w6.cell? ⟨gB,8,none⟩=some (.int .i64 G.os):=by have h:=hcB 8 (by decide);rw [Nat.zero_mul,Nat.zero_add] at h;exact h
      have HA:Hid (∀ W,Kept NoB w6 W→W.cell? ⟨gB,0,none⟩=some (.bool G.text)∧W.cell? ⟨gB,1,none⟩=some (.bool G.hasx)∧W.cell? ⟨gB,2,none⟩=some (.bool G.sum)∧W.cell? ⟨gB,3,none⟩=some (.slice ya G.extra.length yk)∧W.cell? ⟨gB,4,none⟩=some (.string (strB G.name))∧W.cell? ⟨gB,5,none⟩=some (.string (strB G.comm))∧W.cell? ⟨gB,6,none⟩=some (.int .i64 G.time)∧W.cell? ⟨gB,7,none⟩=some (.int .i64 G.xfl)∧W.cell? ⟨gB,8,none⟩=some (.int .i64 G.os)):=Hd (fun W h=>⟨h.cell b0,h.cell b1,h.cell b2,h.cell b3,h.cell b4,h.cell b5,h.cell b6,h.cell b7,h.cell b8⟩)
      clear b0 b1 b2 b3 b4 b5 b6 b7 b8
      have HQ:Hid (∀ W,Kept NoB w6 W→W.cell? ⟨X,0,none⟩=some (.bool G.text)∧W.cell? ⟨X,1,none⟩=some (.bool G.hasx)∧W.cell? ⟨X,2,none⟩=some (.bool G.sum)∧W.cell? ⟨X,3,none⟩=some (.slice a2 G.extra.length k2)∧W.cell? ⟨X,4,none⟩=some (.string (strB G.name))∧W.cell? ⟨X,5,none⟩=some (.string (strB G.comm))∧W.cell? ⟨X,6,none⟩=some (.int .i64 G.time)∧W.cell? ⟨X,7,none⟩=some (.int .i64 G.xfl)∧W.cell? ⟨X,8,none⟩=some (.int .i64 G.os)):=Hd (fun W h=>⟨h.cell (obj_cell HX6.out 0),h.cell (obj_cell HX6.out 1),h.cell (obj_cell HX6.out 2),h.cell (obj_cell HX6.out 3),h.cell (obj_cell HX6.out 4),h.cell (obj_cell HX6.out 5),h.cell (obj_cell HX6.out 6),h.cell (obj_cell HX6.out 7),h.cell (obj_cell HX6.out 8)⟩)
      have HSame:=Hd hsame
      clear hcB hsame hen hgq hlen2 hya hyr hcx hcb hS1 hS2
      have HBit:=Hd hbit
      clear g1 g2 g3 g4 h2 h3 h4 e1 e2 e3 hb10 hM2i h18 hlv hbit hnm hcm hsn hsc
      go_cut [132] from 108 to 132 (fun v132 wx=>v132 = .bool false∧Hid (Kept NoB w6 wx))
      case first=>
       go_wp2_with fail
       refine wp_region_noPanic ?_
       refine wp_region_held_drew (S:=fun W=>Kept NoB w6 W) (by kernel_rfl) (Kept.drew (Kept.refl _ _)) (fun hHeld=>?_)
       refine wpAnyH_take (i:=0) (v:=?_) (by rw [List.getElem?_toArray];rfl) (by kernel_rfl) (by kernel_rfl) (by kernel_rfl) (fun _ _ _ h=>h) (Or.inl ⟨by rfl,?hyq1_⟩) (by assumption) ?restq1_
       case hyq1_=>(intro w hSw;(try dsimp only at hSw);go_simp;(try with_reducible rfl))
       try simp only [Act.put,List.setIfInBounds_toArray,List.set_cons_zero,List.set_cons_succ]
       refine wpAnyH_take (i:=1) (v:=?_) (by rw [List.getElem?_toArray];rfl) (by kernel_rfl) (by kernel_rfl) (by kernel_rfl) (fun _ _ _ h=>h) (Or.inl ⟨by rfl,?hyq2_⟩) (by assumption) ?restq2_
       case hyq2_=>(intro w hSw;(try dsimp only at hSw);go_simp;(try with_reducible rfl))
       try simp only [Act.put,List.setIfInBounds_toArray,List.set_cons_zero,List.set_cons_succ]
       refine wpAnyH_take (i:=2) (v:=?_) (by rw [List.getElem?_toArray];rfl) (by kernel_rfl) (by kernel_rfl) (by kernel_rfl) (fun _ _ _ h=>h) (Or.inl ⟨by rfl,?hyq3_⟩) (by assumption) ?restq3_
       case hyq3_=>(intro w hSw;(try dsimp only at hSw);go_simp;(try with_reducible rfl))
       try simp only [Act.put,List.setIfInBounds_toArray,List.set_cons_zero,List.set_cons_succ]
       refine wpAnyH_take (i:=3) (v:=?_) (by rw [List.getElem?_toArray];rfl) (by kernel_rfl) (by kernel_rfl) (by kernel_rfl) (fun _ _ _ h=>h) (Or.inl ⟨by rfl,?hyq4_⟩) (by assumption) ?restq4_
       case hyq4_=>(intro w hSw;(try dsimp only at hSw);go_simp;(try with_reducible rfl))
       try simp only [Act.put,List.setIfInBounds_toArray,List.set_cons_zero,List.set_cons_succ]
       refine wpAnyH_take (i:=4) (v:=?_) (by rw [List.getElem?_toArray];rfl) (by kernel_rfl) (by kernel_rfl) (by kernel_rfl) (fun _ _ _ h=>h) (Or.inl ⟨by rfl,?hyq5_⟩) (by assumption) ?restq5_
       case hyq5_=>(intro w hSw;(try dsimp only at hSw);have e1:=HCx.out w hSw;go_simp;(try with_reducible rfl))
       try simp only [Act.put,List.setIfInBounds_toArray,List.set_cons_zero,List.set_cons_succ]
       refine wpAnyH_take (i:=5) (v:=?_) (by rw [List.getElem?_toArray];rfl) (by kernel_rfl) (by kernel_rfl) (by kernel_rfl) (fun _ _ _ h=>h) (Or.inl ⟨by rfl,?hyq6_⟩) (by assumption) ?restq6_
       case hyq6_=>(intro w hSw;(try dsimp only at hSw);go_simp;(try with_reducible rfl))
       try simp only [Act.put,List.setIfInBounds_toArray,List.set_cons_zero,List.set_cons_succ]
       refine wpAnyH_take (i:=6) (v:=?_) (by rw [List.getElem?_toArray];rfl) (by kernel_rfl) (by kernel_rfl) (by kernel_rfl) (fun _ _ _ h=>h) (Or.inl ⟨by rfl,?hyq7_⟩) (by assumption) ?restq7_
       case hyq7_=>(intro w hSw;(try dsimp only at hSw);have e1:=HCb.out w hSw;go_simp;(try with_reducible rfl))
       try simp only [Act.put,List.setIfInBounds_toArray,List.set_cons_zero,List.set_cons_succ]
       refine wpAnyH_take (i:=7) (v:=?_) (by rw [List.getElem?_toArray];rfl) (by kernel_rfl) (by kernel_rfl) (by kernel_rfl) (fun _ _ _ h=>h) (Or.inl ⟨by rfl,?hyq8_⟩) (by assumption) ?restq8_
       case hyq8_=>(intro w hSw;(try dsimp only at hSw);go_simp;(try with_reducible rfl))
       try simp only [Act.put,List.setIfInBounds_toArray,List.set_cons_zero,List.set_cons_succ]
       refine wpAnyH_take (i:=8) (v:=?_) (by rw [List.getElem?_toArray];rfl) (by kernel_rfl) (by kernel_rfl) (by kernel_rfl) (fun _ _ _ h=>h) (Or.inl ⟨by rfl,?hyq9_⟩) (by assumption) ?restq9_
       case hyq9_=>(intro w hSw;(try dsimp only at hSw);have e1:=HCb.out w hSw;go_simp;(try with_reducible rfl))
       try simp only [Act.put,List.setIfInBounds_toArray,List.set_cons_zero,List.set_cons_succ]
       refine wpAnyH_take (i:=9) (v:=?_) (by rw [List.getElem?_toArray];rfl) (by kernel_rfl) (by kernel_rfl) (by kernel_rfl) (fun _ _ _ h=>h) (Or.inl ⟨by rfl,?hyq10_⟩) (by assumption) ?restq10_
       case hyq10_=>(intro w hSw;(try dsimp only at hSw);have e1:¬ 9223372036854775807 < S1.size+S1.size:=(by omega);go_simp;(try with_reducible rfl))
       try simp only [Act.put,List.setIfInBounds_toArray,List.set_cons_zero,List.set_cons_succ]
       refine wpAnyH_take (i:=10) (v:=?_) (by rw [List.getElem?_toArray];rfl) (by kernel_rfl) (by kernel_rfl) (by kernel_rfl) (fun _ _ _ h=>h) (Or.inl ⟨by rfl,?hyq11_⟩) (by assumption) ?restq11_
       case hyq11_=>(intro w hSw;(try dsimp only at hSw);go_simp;(try with_reducible rfl))
       try simp only [Act.put,List.setIfInBounds_toArray,List.set_cons_zero,List.set_cons_succ]
       refine wpAnyH_take (i:=11) (v:=?_) (by rw [List.getElem?_toArray];rfl) (by kernel_rfl) (by kernel_rfl) (by kernel_rfl) (fun _ _ _ h=>h) (Or.inl ⟨by rfl,?hyq12_⟩) (by assumption) ?restq12_
       case hyq12_=>(intro w hSw;(try dsimp only at hSw);go_simp;(try with_reducible rfl))
       try simp only [Act.put,List.setIfInBounds_toArray,List.set_cons_zero,List.set_cons_succ]
       refine wpAnyH_take (i:=12) (v:=?_) (by rw [List.getElem?_toArray];rfl) (by kernel_rfl) (by kernel_rfl) (by kernel_rfl) (fun _ _ _ h=>h) (Or.inl ⟨by rfl,?hyq13_⟩) (by assumption) ?restq13_
       case hyq13_=>(intro w hSw;(try dsimp only at hSw);go_simp;(try with_reducible rfl))
       try simp only [Act.put,List.setIfInBounds_toArray,List.set_cons_zero,List.set_cons_succ]
       refine wpAnyH_take (i:=13) (v:=?_) (by rw [List.getElem?_toArray];rfl) (by kernel_rfl) (by kernel_rfl) (by kernel_rfl) (fun _ _ _ h=>h) (Or.inl ⟨by rfl,?hyq14_⟩) (by assumption) ?restq14_
       case hyq14_=>(intro w hSw;(try dsimp only at hSw);go_simp;(try with_reducible rfl))
       try simp only [Act.put,List.setIfInBounds_toArray,List.set_cons_zero,List.set_cons_succ]
       refine wpAnyH_take (i:=14) (v:=?_) (by rw [List.getElem?_toArray];rfl) (by kernel_rfl) (by kernel_rfl) (by kernel_rfl) (fun _ _ _ h=>h) (Or.inl ⟨by rfl,?hyq15_⟩) (by assumption) ?restq15_
       case hyq15_=>(intro w hSw;(try dsimp only at hSw);go_simp;(try with_reducible rfl))
       try simp only [Act.put,List.setIfInBounds_toArray,List.set_cons_zero,List.set_cons_succ]
       refine wpAnyH_take (i:=15) (v:=?_) (by rw [List.getElem?_toArray];rfl) (by kernel_rfl) (by kernel_rfl) (by kernel_rfl) (fun _ _ _ h=>h) (Or.inl ⟨by rfl,?hyq16_⟩) (by assumption) ?restq16_
       case hyq16_=>(intro w hSw;(try dsimp only at hSw);go_simp;(try with_reducible rfl))
       try simp only [Act.put,List.setIfInBounds_toArray,List.set_cons_zero,List.set_cons_succ]
       refine wpAnyH_take (i:=16) (v:=?_) (by rw [List.getElem?_toArray];rfl) (by kernel_rfl) (by kernel_rfl) (by kernel_rfl) (fun _ _ _ h=>h) (Or.inl ⟨by rfl,?hyq17_⟩) (by assumption) ?restq17_
       case hyq17_=>(intro w hSw;(try dsimp only at hSw);go_simp;(try with_reducible rfl))
       try simp only [Act.put,List.setIfInBounds_toArray,List.set_cons_zero,List.set_cons_succ]
       refine wpAnyH_take (i:=17) (v:=?_) (by rw [List.getElem?_toArray];rfl) (by kernel_rfl) (by kernel_rfl) (by kernel_rfl) (fun _ _ _ h=>h) (Or.inl ⟨by rfl,?hyq18_⟩) (by assumption) ?restq18_
       case hyq18_=>(intro w hSw;(try dsimp only at hSw);go_simp;(try with_reducible rfl))
       try simp only [Act.put,List.setIfInBounds_toArray,List.set_cons_zero,List.set_cons_succ]
       refine wpAnyH_take (i:=18) (v:=?_) (by rw [List.getElem?_toArray];rfl) (by kernel_rfl) (by kernel_rfl) (by kernel_rfl) (fun _ _ _ h=>h) (Or.inl ⟨by rfl,?hyq19_⟩) (by assumption) ?restq19_
       case hyq19_=>(intro w hSw;(try dsimp only at hSw);go_simp;(try with_reducible rfl))
       try simp only [Act.put,List.setIfInBounds_toArray,List.set_cons_zero,List.set_cons_succ]
       refine wpAnyH_take (i:=19) (v:=?_) (by rw [List.getElem?_toArray];rfl) (by kernel_rfl) (by kernel_rfl) (by kernel_rfl) (fun _ _ _ h=>h) (Or.inl ⟨by rfl,?hyq20_⟩) (by assumption) ?restq20_
       case hyq20_=>(intro w hSw;(try dsimp only at hSw);go_simp;(try with_reducible rfl))
       try simp only [Act.put,List.setIfInBounds_toArray,List.set_cons_zero,List.set_cons_succ]
       refine wpAnyH_take (i:=20) (v:=?_) (by rw [List.getElem?_toArray];rfl) (by kernel_rfl) (by kernel_rfl) (by kernel_rfl) (fun _ _ _ h=>h) (Or.inl ⟨by rfl,?hyq21_⟩) (by assumption) ?restq21_
       case hyq21_=>(intro w hSw;(try dsimp only at hSw);obtain ⟨k0,k1,k2',k3,k4,k5,k6,k7,k8⟩:=HA.out w hSw;go_simp;(try with_reducible rfl))
       try simp only [Act.put,List.setIfInBounds_toArray,List.set_cons_zero,List.set_cons_succ]
       refine wpAnyH_take (i:=21) (v:=?_) (by rw [List.getElem?_toArray];rfl) (by kernel_rfl) (by kernel_rfl) (by kernel_rfl) (fun _ _ _ h=>h) (Or.inl ⟨by rfl,?hyq22_⟩) (by assumption) ?restq22_
       case hyq22_=>(intro w hSw;(try dsimp only at hSw);obtain ⟨k0,k1,k2',k3,k4,k5,k6,k7,k8⟩:=HQ.out w hSw;go_simp;(try with_reducible rfl))
       try simp only [Act.put,List.setIfInBounds_toArray,List.set_cons_zero,List.set_cons_succ]
       refine wpAnyH_ready (rs:=[22]) (by kernel_rfl) (by simp) ?_
       refine AllReadyH.cons (by rw [List.getElem?_toArray];rfl) (fun K hK=>?_) AllReadyH.nil
       go_simp
       go_at_call 19
       (with_reducible refine (HSame.out _ hHeld).mono ?_)
       rintro e wn ⟨rfl,hkn⟩
       have hSn:=hkn.out
       go_wp2_with fail
       refine hK.out _ _ hSn (fun hHeld=>?_)
       clear hK K hSn
       try simp only [Act.put,List.setIfInBounds_toArray,List.set_cons_zero,List.set_cons_succ]
       refine wpAnyH_take (i:=23) (v:=?_) (by rw [List.getElem?_toArray];rfl) (by kernel_rfl) (by kernel_rfl) (by kernel_rfl) (fun _ _ _ h=>h) (Or.inl ⟨by rfl,?hyq23_⟩) (by assumption) ?restq23_
       case hyq23_=>(intro w hSw;(try dsimp only at hSw);go_simp;(try with_reducible rfl))
       try simp only [Act.put,List.setIfInBounds_toArray,List.set_cons_zero,List.set_cons_succ]
       refine wpAnyH_take (i:=24) (v:=?_) (by rw [List.getElem?_toArray];rfl) (by kernel_rfl) (by kernel_rfl) (by kernel_rfl) (fun _ _ _ h=>h) (Or.inl ⟨by rfl,?hyq24_⟩) (by assumption) ?restq24_
       case hyq24_=>(intro w hSw;(try dsimp only at hSw);go_simp;(try with_reducible rfl))
       try simp only [Act.put,List.setIfInBounds_toArray,List.set_cons_zero,List.set_cons_succ]
       refine wpAnyH_done (by kernel_rfl) ?_ _
       refine NoPanic.normal ?_
       have HKe:=Hd hHeld
       clear hHeld
       go_wp2
       go_meet
       exact ⟨rfl,HKe⟩
      case rest=>
       obtain ⟨rfl,hkn⟩:=hcut
       obtain ⟨w7,rfl⟩:∃ z,z=wc:=⟨_,rfl⟩
       clear HSame HA HQ HCx HCb hS12 hS1s
       go_upto_region 12 with fail
       obtain ⟨q8,hq8⟩:∃ q:Nat,q=m5 - 8:=⟨_,rfl⟩
       have h8i:(m5:Int) - 8=(q8:Int):=by omega
       have h8e:m5 - q8=8:=by omega
       have h8b:q8≤m5:=by omega
       have HM57:=Hd ((HM5b.out.on (HBc.out.kept.trans HG6.out.ob.kept)).on hkn.out)
       have hpc:=HM57.out.cap
       have hml:m5=(nb (memB G L body)).length:=by rw [nb_len];exact HM57.out.len
       obtain ⟨o3,hs3,hp3⟩:=slg_l (some ⟨g5,0,none⟩) m5 c5 q8 (nb (memB G L body)) hml h8b hpc.1 hpc.2.2
       obtain ⟨o4,hs4,hp4⟩:=slg_h (some ⟨g5,0,none⟩) m5 c5 q8 (nb (memB G L body)) hml h8b hpc.1 hpc.2.2
       rw [h8e] at hs3
       have htk:=memB_take ⟨G,L,body⟩
       dsimp only at htk
       rw [← HM57.out.len,← hq8] at htk
       obtain ⟨T,hT⟩:∃ T,T=leB 4 (crcL L)++leB 4 L.length:=⟨_,rfl⟩
       have hTl:T.length=8:=by rw [hT];simp [leB_len]
       obtain ⟨P4,hP4⟩:∃ P,P=(memB G L body).take q8:=⟨_,rfl⟩
       have hPl:P4.length=q8:=by rw [hP4,List.length_take,← HM57.out.len];omega
       have hrd3:∀ W,Kept NoB w7 W→Reads W o3 (nb T):=fun W hk=>by
        have h:=hp3.reads W (HM57.out.reads.keptNo hk)
        have e:(nb (memB G L body)).drop q8=nb T:=by rw [hT,← htk.2];unfold nb;rw [List.map_drop]
        rw [e,List.take_of_length_le (by rw [nb_len,hTl];omega)] at h
        exact h
       have hrd4:∀ W,Kept NoB w7 W→Reads W o4 (nb P4):=fun W hk=>by
        have h:=hp4.reads W (HM57.out.reads.keptNo hk)
        have e:(nb (memB G L body)).take q8=nb P4:=by rw [hP4];unfold nb;rw [List.map_take]
        rw [List.drop_zero,Nat.sub_zero,e] at h
        exact h
       obtain ⟨ad3,had3⟩:∃ a,o3=some a:=by cases h:o3 with | none=>exact absurd (hp3.nil.1 h) (by simp) | some a=>exact ⟨a,rfl⟩
       obtain ⟨ad4,had4⟩:∃ a,o4=some a:=by cases h:o4 with | none=>exact absurd (hp4.nil.1 h) (by simp) | some a=>exact ⟨a,rfl⟩
       subst had3
       subst had4
       have HRd3:=Hd hrd3;have HRd4:=Hd hrd4;have HTe:=Hd hT;have HTl:=Hd hTl;have HPe:=Hd hP4;have HPl:=Hd hPl;have HQ8:=Hd hq8;have HKn:=hkn
       have HNo:=Hd (fun (W:World) (lv:Int) (v:Value)=>member_no W lv v)
       clear hrd3 hrd4 hT hTl hP4 hPl hp3 hp4 htk hml hpc hq8 hkn h8e
       go_wp2_with fail
       refine (HNo.out _ _ _).mono ?_
       rintro e w8 ⟨rfl,hk8⟩
       have HK8:=Hd (((Kept.refl NoB w7).alloc _).trans hk8)
       clear hk8
       have HTu:=Hd (turned_any w8 ad3 8 (c5 - q8) T bit HBit.out HTl.out.symm (HRd3.out w8 HK8.out) (by decide) (by decide))
       go_wp2_with fail
       refine HTu.out.mono ?_
       rintro e w9 ⟨a9,c9,q,kb,rfl,hq,hkb8,hb9⟩
       obtain ⟨T9,hT9⟩:∃ T9,T9=T.set q (T.getD q 0 ^^^ UInt8.ofNat (2 ^ kb)):=⟨_,rfl⟩
       rw [← hT9] at hb9
       have hts:tailS (nb T9) (crcL L) L.length=(0,7):=by
        rw [hT9,HTe.out]
        exact tail_turned (crcL L) L.length q kb (crc16_nat _) (by rw [HLl.out];omega) hq hkb8
       have hT9l:T9.length=8:=hb9.len.symm
       obtain ⟨g9,hg9⟩:=hb9.some (by intro e;rw [e] at hT9l;simp at hT9l)
       subst hg9
       have HB9:=Hd hb9;have HTs:=Hd hts;have HK9:=Hd (HK8.out.trans hb9.kept)
       have HBE9:=Hd (by_empty (Kept.refl NoB w9))
       clear hb9 hts hT9l hT9 hq hkb8 HTu HNo
       go_upto_region 15 with (first
        | (at_builtin;refine wpList_by_rowK rfl (.tmp 148) (.tmp 153) rfl HBE9.out rfl ad4 c5 q8 P4 HPl.out.symm rfl ((HRd4.out w9 HK9.out).keptNo ((Kept.refl NoB w9).alloc _)) (by omega) ?_;intro ae ce we hbe hke;rw [Nat.zero_add,List.nil_append] at hbe;have HBf:=Hd hbe;clear hbe hke)
        | (at_builtin;refine wpList_by_rowK rfl (.tmp 154) (.tmp 155) rfl HBf.out rfl ⟨g9,0,none⟩ c9 8 T9 HB9.out.len rfl (HB9.out.reads.keptNo HBf.out.kept) (by omega) ?_;intro af cf wf hbf hkf;have HBg:=Hd hbf;clear hbf hkf))
       have hgo2:GoG (nb (P4++T9)) bl 0 [] [] q8 7 L [G]:=by
        have h:=go_turned (M:=bl) ⟨G,L,body⟩ HOk1.out (by show L.length≤bl;rw [HLl.out];exact Nat.le_refl _) T9 HTs.out
        dsimp only at h
        rw [← HM57.out.len,← HQ8.out,← HPe.out] at h
        exact h
       have hcall2:=gzall_any wf af (q8+8) cf _ (bl:Int) bl q8 7 L [G] (by rw [nb_len];exact HBg.out.len) (CurRow.ofBy HBg.out) (by omega) rfl (by omega) hgo2
       have HCall2:=Hd hcall2
       clear hgo2 hcall2
       go_wp2_with fail
       refine HCall2.out.mono ?_
       rintro e w12 ⟨oa2,ol2,oc2,h2b,hl3,hc3,es3,rfl,HG12,HM12⟩
       have HK12:=Hd ((((HKw6.out.trans HKn.out).trans HK9.out).trans HBg.out.kept).trans HG12.out.ob.kept)
       have HAz:=Hd (HAk.out w12 HK12.out)
       clear HCall2
       go_wp2_with fail
       refine HAz.out.mono ?_
       rintro e w13 ⟨rfl,hb13⟩
       have HB13:=Hd hb13
       clear hb13
       go_wp2
       go_ret
       exact ⟨rfl,HB13.out⟩
theorem gzipBack_law (v0 v1 v2 v3 v4:Value)(w:World)(r0:Arg w 42 v0)(r1:Arg w 22 v1)(r2:Arg w 3 v2)(r3:Arg w 3 v3)(r4:Arg w 3 v4)(hT:DeB w):Calls Tryz.prog 8 #[v0,v1,v2,v3,v4] w fun e w'=>e = .returned (.bool true)∧Below w.heap.size w w':=by
 obtain ⟨t,x,s,a,k,E,N,C,tm,xf,os,rfl,hA,hN,hC⟩:=gz_open r0
 obtain ⟨bo,cb,bs,rfl,hc,hm,hr,hb,h0⟩:=Arg.bytes Tryz.underlying22 r1
 obtain ⟨lv,rfl,hlv⟩:=Arg.int Tryz.underlying3 r2
 obtain ⟨at_,rfl,_⟩:=Arg.int Tryz.underlying3 r3
 obtain ⟨bit,rfl,hbit⟩:=Arg.int Tryz.underlying3 r4
 unfold maxLen at hN hC
 exact gzipBack_walk t x s a _ k E N C tm xf os bo bs.length cb bs lv at_ bit w hT hA rfl ⟨hr,hb,hc,hm,h0⟩ rfl (i64_bd hlv) (i64_bd hbit) _ _ rfl rfl (by omega) (by omega)
end Go.Proofs.YtfmjfgmbjdhogaaGreatDoor
