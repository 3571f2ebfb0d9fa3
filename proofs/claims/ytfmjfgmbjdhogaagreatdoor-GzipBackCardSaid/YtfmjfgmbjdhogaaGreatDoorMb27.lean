import Derived.Test.YtfmjfgmbjdhogaaGreatDoorMb26
import Derived.BigRegion
set_option linter.unusedVariables false
set_option linter.unusedSimpArgs false
set_option maxRecDepth 20000
set_option maxHeartbeats 8000000
namespace Go.Proofs.YtfmjfgmbjdhogaaGreatDoor
open Go.RowKit
def HeadRd (w:World)(C:Nat)(bo:Option Addr)(c:Nat)(b:List Int)(e:Ending)(w':World):Prop:=
 ∃ (a:Option Addr) (k:Nat),e = .returned (.agg (gzV a k (hdG b)))∧CurO w' C bo c b (hdS b).s14∧Kept (OneB C) w w'∧Reads w' a (nb (hdG b).extra)∧(hdG b).extra.length≤k∧k≤maxLen∧(a=none→k=0)∧(∀ q,a=some q→w.heap.size≤q.block)
theorem head_anyG (w:World)(C:Nat)(bo:Option Addr)(c:Nat)(b:List Int)(hO:CurO w C bo c b ⟨0,0⟩)(hRk:∀ W,Kept (OneB C) w W→CurRow W bo c b)(hb:b.length≤1000000):
  Calls Tryz.prog 48 #[.pointer (some ⟨C,0,none⟩)] w (HeadRd w C bo c b):=by
 have hC:=obj_lt hO
 have hI0:HdI w ((w.alloc (.cells gz0 42)).alloc (.cells gz0 42)) C (w.heap.size+1) w.heap.size bo c b ⟨0,0⟩ gz0 none []:=by
  have k1:Kept NoB w (w.alloc (.cells gz0 42)):=(Kept.refl _ _).alloc _
  have k2:Kept NoB w ((w.alloc (.cells gz0 42)).alloc (.cells gz0 42)):=k1.alloc _
  have s1:(w.alloc (.cells gz0 42)).heap.size=w.heap.size+1:=by simp
  refine ⟨k2.obj hO (fun e=>e),?_,?_,k2.mono (fun _ _ e=>e.elim),⟨by omega,Nat.le_refl _,by omega,hC⟩,⟨fun _=>rfl,fun a h=>by cases h⟩,fun q h=>by cases h⟩
  ·rw [← s1];exact heap_alloc_new _ _
  ·exact ((Kept.refl NoB (w.alloc (.cells gz0 42))).alloc _).obj (heap_alloc_new _ _) (fun e=>e)
 have hK:HdK w C (w.heap.size+1) w.heap.size bo c b:=⟨hRk,hb⟩
 have HK:=Hd hK;have HI0:=Hd hI0
 have hgz:gz0=#[.bool false,.bool false,.bool false,.slice none 0 0,.string ⟨#[]⟩,.string ⟨#[]⟩,.int .i64 0,.int .i64 0,.int .i64 0]:=rfl
 have HGz:=Hd hgz
 -- the steps' places
 obtain ⟨s0,hs0⟩:∃ s:Cur,s=⟨0,0⟩:=⟨_,rfl⟩
 have A0:s0.at_≤b.length:=by rw [hs0];exact Nat.zero_le _
 rw [← hs0] at HI0
 have HS0:=Hd hs0
 clear hO hRk hb hC hI0 hK hgz hs0
 go_enter Tryz.func48,Tryz.ntmps48
 go_upto_region 2 with fail
 have hI:=HI0.out
 have hmeta:=HK.out
 have hlow:w.heap.size≤w.heap.size:=Nat.le_refl _
 unfold gz0 at hI
 generalize (w.alloc (.cells #[.bool false,.bool false,.bool false,.slice none 0 0,.string ⟨#[]⟩,.string ⟨#[]⟩,.int .i64 0,.int .i64 0,.int .i64 0] 42)).alloc (.cells #[.bool false,.bool false,.bool false,.slice none 0 0,.string ⟨#[]⟩,.string ⟨#[]⟩,.int .i64 0,.int .i64 0,.int .i64 0] 42)=wb at hI ⊢
 obtain ⟨H,hH⟩:∃ H,H=w.heap.size+1:=⟨_,rfl⟩
 rw [← hH] at hI hmeta ⊢
 obtain ⟨R,hR⟩:∃ R,R=w.heap.size:=⟨_,rfl⟩
 rw [← hR] at hI hmeta ⊢
 clear HI0 HK HGz hlow
 have HK:=Hd hmeta;have HI0:=Hd hI;have HHe:=Hd hH;have HRe:=Hd hR
 clear hmeta hI hH hR
 obtain ⟨s1,hs1⟩:∃ s:Cur,s=thatS b s0 31 8:=⟨_,rfl⟩
 have A1:s1.at_≤b.length:=by rw [hs1];exact thatS_at A0
 have HEs1:=Hd hs1
 have HC0:=Hd (HK.out.that HI0.out A0 31 8)
 rw [← hs1] at HC0
 clear hs1
 go_wp2_with fail
 refine HC0.out.mono ?_
 rintro e' w1 ⟨rfl,HI1⟩
 clear HC0 HI0
 obtain ⟨s2,hs2⟩:∃ s:Cur,s=thatS b s1 139 8:=⟨_,rfl⟩
 have A2:s2.at_≤b.length:=by rw [hs2];exact thatS_at A1
 have HEs2:=Hd hs2
 have HC1:=Hd (HK.out.that HI1.out A1 139 8)
 rw [← hs2] at HC1
 clear hs2
 go_wp2_with fail
 refine HC1.out.mono ?_
 rintro e' w2 ⟨rfl,HI2⟩
 clear HC1 HI1
 obtain ⟨s3,hs3⟩:∃ s:Cur,s=thatS b s2 8 6:=⟨_,rfl⟩
 have A3:s3.at_≤b.length:=by rw [hs3];exact thatS_at A2
 have HEs3:=Hd hs3
 have HC2:=Hd (HK.out.that HI2.out A2 8 6)
 rw [← hs3] at HC2
 clear hs3
 go_wp2_with fail
 refine HC2.out.mono ?_
 rintro e' w3 ⟨rfl,HI3⟩
 clear HC2 HI2
 obtain ⟨s4,hs4⟩:∃ s:Cur,s=takeS b s3 1:=⟨_,rfl⟩
 have A4:s4.at_≤b.length:=by rw [hs4];exact takeS_at A3
 have HEs4:=Hd hs4
 have HC3:=Hd (HK.out.take HI3.out A3 1 1 rfl (by decide))
 rw [← hs4] at HC3
 have hltf:=takeB_len (b:=b) (s:=s3) (n:=1)
 have HAtf:=Hd (takeB_all (s:=s3) (n:=1) (HK.out.row w (Kept.refl _ _)).all)
 obtain ⟨tf,htf⟩:∃ t,t=takeB b s3 1:=⟨_,rfl⟩
 rw [← htf] at HC3 hltf HAtf
 have HEtf:=Hd htf
 clear hs4 htf
 go_wp2_with fail
 refine HC3.out.mono ?_
 rintro e' w4 ⟨otf,mtf,ktf,rfl,HI4,HMtf,HRtf,hmktf,hkctf,HNtf⟩
 clear HC3 HI3
 have HQfl:=Hd (numG_any w4 otf mtf ktf tf (HRtf.out w4 HI4.out.kept) HAtf.out HMtf.out (by rw [HMtf.out];omega))
 have HBfl:=Hd (num_lt tf HAtf.out)
 obtain ⟨fl,hfl⟩:∃ n,n=num tf:=⟨_,rfl⟩
 rw [← hfl] at HQfl HBfl
 have HEfl:=Hd hfl
 clear hfl
 go_wp2_with fail
 refine HQfl.out.mono ?_
 rintro e' w4 ⟨rfl,rfl⟩
 clear HQfl
 have hfl:fl < 256:=by have h:=HBfl.out;have:256 ^ tf.length≤256 ^ 1:=Nat.pow_le_pow_right (by decide) hltf;omega
 obtain ⟨b5,hb5⟩:∃ x:Bool,x=decide (32≤fl):=⟨_,rfl⟩
 have hb5d:decide (32≤(fl:Int))=b5:=by rw [hb5];exact decide_eq_decide.2 (by omega)
 have HEb5:=Hd hb5
 clear hb5
 obtain ⟨s5,hs5⟩:∃ s:Cur,s=refS2 s4 b5 6:=⟨_,rfl⟩
 have A5:s5.at_≤b.length:=by rw [hs5];exact (by rw [refS2_at];exact A4)
 have HEs5:=Hd hs5
 have HC4:=Hd (HK.out.refuse HI4.out b5 6)
 rw [← hs5] at HC4
 clear hs5
 go_wp2_with fail
 refine HC4.out.mono ?_
 rintro e' w5 ⟨rfl,HI5⟩
 clear HC4 HI4 hb5d
 obtain ⟨⟨x1,hx1,hd1⟩,⟨x2,hx2,hd2⟩,⟨x4,hx4,hd4⟩,⟨x8,hx8,hd8⟩,⟨x16,hx16,hd16⟩⟩:=flag_fact fl hfl
 obtain ⟨bt,hbt⟩:∃ x:Bool,x=decide (fl % 2=1):=⟨_,rfl⟩
 obtain ⟨bs,hbs⟩:∃ x:Bool,x=decide (fl / 2 % 2=1):=⟨_,rfl⟩
 obtain ⟨bx,hbx⟩:∃ x:Bool,x=decide (fl / 4 % 2=1):=⟨_,rfl⟩
 obtain ⟨bn,hbn⟩:∃ x:Bool,x=decide (fl / 8 % 2=1):=⟨_,rfl⟩
 obtain ⟨bm,hbm⟩:∃ x:Bool,x=decide (fl / 16 % 2=1):=⟨_,rfl⟩
 rw [← hbt] at hd1
 rw [← hbs] at hd2
 rw [← hbx] at hd4
 rw [← hbn] at hd8
 rw [← hbm] at hd16
 have HEbt:=Hd hbt;have HEbs:=Hd hbs;have HEbx:=Hd hbx;have HEbn:=Hd hbn;have HEbm:=Hd hbm
 have f0:=obj_free HI5.out.h 0
 have f1:=obj_free HI5.out.h 1
 have f2:=obj_free HI5.out.h 2
 have d0:w5.cell? ⟨H,0,none⟩=some (.bool false):=obj_cell HI5.out.h 0
 have d1:w5.cell? ⟨H,1,none⟩=some (.bool false):=obj_cell HI5.out.h 1
 have d2:w5.cell? ⟨H,2,none⟩=some (.bool false):=obj_cell HI5.out.h 2
 have HIs:=Hd (((HI5.out.set 0 (.bool bt)).set 2 (.bool bs)).set 1 (.bool bx))
 clear hbt hbs hbx hbn hbm
 have hIs:=HIs.out
 go_upto_region 8 with fail
 generalize ((w5.setCell ⟨H,0,none⟩ (.bool bt)).setCell ⟨H,2,none⟩ (.bool bs)).setCell ⟨H,1,none⟩ (.bool bx)=w6 at hIs ⊢
 have HI6:=Hd hIs
 clear hIs HIs HI5 f0 f1 f2 d0 d1 d2 hx1 hx2 hx4 hd1 hd2 hd4
 obtain ⟨s6,hs6⟩:∃ s:Cur,s=takeS b s5 4:=⟨_,rfl⟩
 have A6:s6.at_≤b.length:=by rw [hs6];exact takeS_at A5
 have HEs6:=Hd hs6
 have HC6:=Hd (HK.out.take HI6.out A5 4 4 rfl (by decide))
 rw [← hs6] at HC6
 have hltt:=takeB_len (b:=b) (s:=s5) (n:=4)
 have HAtt:=Hd (takeB_all (s:=s5) (n:=4) (HK.out.row w (Kept.refl _ _)).all)
 obtain ⟨tt,htt⟩:∃ t,t=takeB b s5 4:=⟨_,rfl⟩
 rw [← htt] at HC6 hltt HAtt
 have HEtt:=Hd htt
 clear hs6 htt
 go_wp2_with fail
 refine HC6.out.mono ?_
 rintro e' w7 ⟨ott,mtt,ktt,rfl,HI7,HMtt,HRtt,hmktt,hkctt,HNtt⟩
 clear HC6 HI6
 have HQtm:=Hd (numG_any w7 ott mtt ktt tt (HRtt.out w7 HI7.out.kept) HAtt.out HMtt.out (by rw [HMtt.out];omega))
 have HBtm:=Hd (num_lt tt HAtt.out)
 obtain ⟨tm,htm⟩:∃ n,n=num tt:=⟨_,rfl⟩
 rw [← htm] at HQtm HBtm
 have HEtm:=Hd htm
 clear htm
 go_wp2_with fail
 refine HQtm.out.mono ?_
 rintro e' w7 ⟨rfl,rfl⟩
 clear HQtm
 have f:=obj_free HI7.out.h 6
 have d:w7.cell? ⟨H,6,none⟩=some (Value.int .i64 0):=obj_cell HI7.out.h 6
 have HI8:=Hd (HI7.out.set 6 (.int .i64 tm))
 clear HI7
 obtain ⟨s7,hs7⟩:∃ s:Cur,s=takeS b s6 1:=⟨_,rfl⟩
 have A7:s7.at_≤b.length:=by rw [hs7];exact takeS_at A6
 have HEs7:=Hd hs7
 have HC8:=Hd (HK.out.take HI8.out A6 1 1 rfl (by decide))
 rw [← hs7] at HC8
 have hltx:=takeB_len (b:=b) (s:=s6) (n:=1)
 have HAtx:=Hd (takeB_all (s:=s6) (n:=1) (HK.out.row w (Kept.refl _ _)).all)
 obtain ⟨tx,htx⟩:∃ t,t=takeB b s6 1:=⟨_,rfl⟩
 rw [← htx] at HC8 hltx HAtx
 have HEtx:=Hd htx
 clear hs7 htx
 go_wp2_with fail
 refine HC8.out.mono ?_
 rintro e' w8 ⟨otx,mtx,ktx,rfl,HI9,HMtx,HRtx,hmktx,hkctx,HNtx⟩
 clear HC8 HI8
 have HQxf:=Hd (numG_any w8 otx mtx ktx tx (HRtx.out w8 HI9.out.kept) HAtx.out HMtx.out (by rw [HMtx.out];omega))
 have HBxf:=Hd (num_lt tx HAtx.out)
 obtain ⟨xf,hxf⟩:∃ n,n=num tx:=⟨_,rfl⟩
 rw [← hxf] at HQxf HBxf
 have HExf:=Hd hxf
 clear hxf
 go_wp2_with fail
 refine HQxf.out.mono ?_
 rintro e' w8 ⟨rfl,rfl⟩
 clear HQxf
 have f:=obj_free HI9.out.h 7
 have d:w8.cell? ⟨H,7,none⟩=some (Value.int .i64 0):=obj_cell HI9.out.h 7
 have HI10:=Hd (HI9.out.set 7 (.int .i64 xf))
 clear HI9
 obtain ⟨s8,hs8⟩:∃ s:Cur,s=takeS b s7 1:=⟨_,rfl⟩
 have A8:s8.at_≤b.length:=by rw [hs8];exact takeS_at A7
 have HEs8:=Hd hs8
 have HC10:=Hd (HK.out.take HI10.out A7 1 1 rfl (by decide))
 rw [← hs8] at HC10
 have hltq:=takeB_len (b:=b) (s:=s7) (n:=1)
 have HAtq:=Hd (takeB_all (s:=s7) (n:=1) (HK.out.row w (Kept.refl _ _)).all)
 obtain ⟨tq,htq⟩:∃ t,t=takeB b s7 1:=⟨_,rfl⟩
 rw [← htq] at HC10 hltq HAtq
 have HEtq:=Hd htq
 clear hs8 htq
 go_wp2_with fail
 refine HC10.out.mono ?_
 rintro e' w9 ⟨otq,mtq,ktq,rfl,HI11,HMtq,HRtq,hmktq,hkctq,HNtq⟩
 clear HC10 HI10
 have HQos:=Hd (numG_any w9 otq mtq ktq tq (HRtq.out w9 HI11.out.kept) HAtq.out HMtq.out (by rw [HMtq.out];omega))
 have HBos:=Hd (num_lt tq HAtq.out)
 obtain ⟨os,hos⟩:∃ n,n=num tq:=⟨_,rfl⟩
 rw [← hos] at HQos HBos
 have HEos:=Hd hos
 clear hos
 go_wp2_with fail
 refine HQos.out.mono ?_
 rintro e' w9 ⟨rfl,rfl⟩
 clear HQos
 have f:=obj_free HI11.out.h 8
 have d:w9.cell? ⟨H,8,none⟩=some (Value.int .i64 0):=obj_cell HI11.out.h 8
 have HI12:=Hd (HI11.out.set 8 (.int .i64 os))
 clear HI11
 have hI:=HI12.out
 have d1:(w9.setCell ⟨H,8,none⟩ (.int .i64 (os:Int))).cell? ⟨H,1,none⟩=some (.bool bx):=obj_cell hI.h 1
 go_upto_if 45 with fail
 clear f d
 generalize w9.setCell ⟨H,8,none⟩ (.int .i64 (os:Int))=w10 at hI d1 ⊢
 have HIa:Hid (HdI w w10 C H R bo c b s8 #[.bool bt,.bool bx,.bool bs,.slice none 0 0,.string ⟨#[]⟩,.string ⟨#[]⟩,.int .i64 tm,.int .i64 xf,.int .i64 os] none []):=Hd hI
 clear hI HI12
 obtain ⟨s9,hs9⟩:∃ s:Cur,s=if bx then takeS b s8 2 else s8:=⟨_,rfl⟩
 have A9:s9.at_≤b.length:=by rw [hs9];exact (by split;exact takeS_at A8;exact A8)
 have HEs9:=Hd hs9
 obtain ⟨n2,hn2⟩:∃ n,n=num (takeB b s8 2):=⟨_,rfl⟩
 obtain ⟨s10,hs10⟩:∃ s:Cur,s=if bx then takeS b s9 n2 else s8:=⟨_,rfl⟩
 have A10:s10.at_≤b.length:=by rw [hs10];exact (by split;exact takeS_at A9;exact A8)
 have HEs10:=Hd hs10
 obtain ⟨ex,hex⟩:∃ ex:List UInt8,ex=if bx then un (takeB b s9 n2) else []:=⟨_,rfl⟩
 have HEx:=Hd hex;have HEn2:=Hd hn2
 obtain ⟨nx,hnx⟩:∃ nx,nx=ex.length:=⟨_,rfl⟩
 have HNx:=Hd hnx
 clear hnx hs9 hs10 hex hn2
 go_cut [] from 46 to 52 (fun wx=>∃ (xa:Option Addr) (kx:Nat),Hid (HdI w wx C H R bo c b s10 #[.bool bt,.bool bx,.bool bs,.slice xa nx kx,.string ⟨#[]⟩,.string ⟨#[]⟩,.int .i64 tm,.int .i64 xf,.int .i64 os] xa (nb ex))∧Hid (nx≤kx∧kx≤maxLen∧(xa=none→kx=0)))
 case first=>
  cases bx with
  | false=>
   have e1:ex=[]:=HEx.out
   have e2:nx=0:=by rw [HNx.out,e1];rfl
   have e3:s10=s8:=HEs10.out
   go_wp2
   go_meet
   exact ⟨none,0,Hd (by rw [e1,e2,e3];exact HIa.out),Hd ⟨by omega,Nat.zero_le _,fun _=>rfl⟩⟩
  | true=>
   have e9:s9=takeS b s8 2:=HEs9.out
   have e10:s10=takeS b s9 n2:=HEs10.out
   have hex:ex=un (takeB b s9 n2):=HEx.out
   have HC1:=Hd (HK.out.take HIa.out A8 2 2 rfl (by decide))
   rw [← e9] at HC1
   have hlt2:=takeB_len (b:=b) (s:=s8) (n:=2)
   have hn2:=HEn2.out
   obtain ⟨t2,ht2⟩:∃ t,t=takeB b s8 2:=⟨_,rfl⟩
   have HA2:=Hd (takeB_all (s:=s8) (n:=2) (HK.out.row w (Kept.refl _ _)).all)
   rw [← ht2] at HC1 hlt2 hn2 HA2
   have HE9:=Hd e9;have HE10:=Hd e10;have HX:=Hd hex;have HN2:=Hd hn2
   have hn2b:n2 < 65536:=by have h:=num_lt t2 HA2.out;have:256 ^ t2.length≤256 ^ 2:=Nat.pow_le_pow_right (by decide) hlt2;omega
   clear ht2 e9 e10 hex hn2
   go_wp2_with fail
   refine HC1.out.mono ?_
   rintro e' w11 ⟨o1,m1,k1,rfl,HI1,HM1,HR1,hmk1,hkc1,HN1⟩
   have HQ:=Hd (numG_any w11 o1 m1 k1 t2 (HR1.out w11 HI1.out.kept) HA2.out HM1.out (by rw [HM1.out];omega))
   rw [← HN2.out] at HQ
   have HC2:=Hd (HK.out.take HI1.out A9 n2 n2 rfl (by omega))
   rw [← HE10.out] at HC2
   clear HC1
   go_wp2_with fail
   refine HQ.out.mono ?_
   rintro e' w11 ⟨rfl,rfl⟩
   go_wp2_with fail
   refine HC2.out.mono ?_
   rintro e' w12 ⟨o2,m2,k2,rfl,HI2,HM2,HR2,hmk2,hkc2,HN2'⟩
   have hall:=takeB_all (s:=s9) (n:=n2) (HK.out.row w (Kept.refl _ _)).all
   have hnb:nb ex=takeB b s9 n2:=by rw [HX.out];exact nb_un hall
   have hm2:m2=(nb ex).length:=by rw [HM2.out,hnb]
   have hcl:=clone_any o2 k2 (nb ex) w12 (by rw [hnb];exact HR2.out w12 HI2.out.kept) (by rw [← hm2];have:=takeB_len (b:=b) (s:=s9) (n:=n2);rw [← hnb,← hm2] at this;omega)
   rw [← hm2] at hcl
   have HCl:=Hd hcl;have HMm:=Hd hm2
   have hm2x:m2=nx:=by rw [hm2,nb_len,HNx.out]
   have HMx:=Hd hm2x
   clear hall hnb hm2 hcl hm2x HC2 HQ
   go_wp2_with fail
   refine HCl.out.mono ?_
   rintro e' w13 ⟨ao,kx,rfl,ho,hfr,hno,hk13⟩
   rw [← HMm.out] at ho hfr ⊢
   have hIw:=HI2.out.no hk13
   have hlt:H < w12.heap.size∧R < w12.heap.size:=⟨obj_lt HI2.out.h,obj_lt HI2.out.r⟩
   have hrd:Reads w13 ao (nb ex):=own_reads (by rw [← HMm.out];exact ho) rfl
   have hIw2:=hIw.watch ao (nb ex) hrd (fun q hq=>by
    subst hq
    have:=hfr q.block (own_block ho rfl)
    have:=HI2.out.kept.size
    omega)
   have HI3:=Hd (hIw2.set 3 (.slice ao m2 kx))
   have f3:=obj_free hIw2.h 3
   have d3:w13.cell? ⟨H,3,none⟩=some (.slice none 0 0):=obj_cell hIw2.h 3
   have hcap:=own_cap ho
   have HNil:=Hd (own_nil ho)
   clear hIw hIw2 hrd hlt ho hfr hno hk13 HI2 HCl
   go_wp2
   go_meet
   exact ⟨ao,kx,Hd (by rw [← HMx.out];exact HI3.out),Hd ⟨by rw [← HMx.out];exact hcap.1,hcap.2,HNil.out⟩⟩
 case rest=>
 obtain ⟨xa,kx,HIb,HXb⟩:=hcut
 clear HIa d1
 obtain ⟨s11,hs11⟩:∃ s:Cur,s=if bn then txtS b s10 else s10:=⟨_,rfl⟩
 have A11:s11.at_≤b.length:=by rw [hs11];exact (by split;exact txtS_at A10;exact A10)
 have HEs11:=Hd hs11
 obtain ⟨nm,hnm⟩:∃ t:List UInt8,t=if bn then un (txtR b s10) else []:=⟨_,rfl⟩
 have HEnm:=Hd hnm
 clear hs11 hnm
 go_upto_if 55 with fail
 go_cut [] from 56 to 58 (fun wx=>Hid (HdI w wx C H R bo c b s11 #[.bool bt,.bool bx,.bool bs,.slice xa nx kx,.string (strB nm),.string ⟨#[]⟩,.int .i64 tm,.int .i64 xf,.int .i64 os] xa (nb ex)))
 case first=>
  cases bn with
  | false=>
   have e1:nm=[]:=HEnm.out
   have e3:s11=s10:=HEs11.out
   go_wp2
   go_meet
   exact Hd (by rw [e1,e3];exact HIb.out)
  | true=>
   have e1:nm=un (txtR b s10):=HEnm.out
   have e3:s11=txtS b s10:=HEs11.out
   have e4:strOfNums (txtR b s10)=strB nm:=by rw [e1,← nb_strG,nb_un (txtR_all (HK.out.row w (Kept.refl _ _)).all)]
   have HC1:=Hd (HK.out.text HIb.out A10)
   rw [e4,← e3] at HC1
   clear e1 e3 e4
   obtain ⟨S,hS⟩:∃ S,S=strB nm:=⟨_,rfl⟩
   rw [← hS] at HC1
   have HSe:=Hd hS
   clear hS
   go_wp2_with (first | ((with_reducible refine HC1.out.mono ?_);rintro e' w11 ⟨rfl,HI1⟩;have f3:=obj_free HI1.out.h 4;have d3:=(obj_cell HI1.out.h 4).trans (show _=some (.string ⟨#[]⟩:Value) from rfl)))
   go_meet
   exact Hd (by rw [← HSe.out];exact HI1.out.set 4 (.string S))
 case rest=>
 have HIc:=hcut
 clear HIb hcut
 obtain ⟨s12,hs12⟩:∃ s:Cur,s=if bm then txtS b s11 else s11:=⟨_,rfl⟩
 have A12:s12.at_≤b.length:=by rw [hs12];exact (by split;exact txtS_at A11;exact A11)
 have HEs12:=Hd hs12
 obtain ⟨cm,hcm⟩:∃ t:List UInt8,t=if bm then un (txtR b s11) else []:=⟨_,rfl⟩
 have HEcm:=Hd hcm
 clear hs12 hcm
 go_upto_if 61 with fail
 go_cut [] from 62 to 64 (fun wx=>Hid (HdI w wx C H R bo c b s12 #[.bool bt,.bool bx,.bool bs,.slice xa nx kx,.string (strB nm),.string (strB cm),.int .i64 tm,.int .i64 xf,.int .i64 os] xa (nb ex)))
 case first=>
  cases bm with
  | false=>
   have e1:cm=[]:=HEcm.out
   have e3:s12=s11:=HEs12.out
   go_wp2
   go_meet
   exact Hd (by rw [e1,e3];exact HIc.out)
  | true=>
   have e1:cm=un (txtR b s11):=HEcm.out
   have e3:s12=txtS b s11:=HEs12.out
   have e4:strOfNums (txtR b s11)=strB cm:=by rw [e1,← nb_strG,nb_un (txtR_all (HK.out.row w (Kept.refl _ _)).all)]
   have HC1:=Hd (HK.out.text HIc.out A11)
   rw [e4,← e3] at HC1
   clear e1 e3 e4
   obtain ⟨S,hS⟩:∃ S,S=strB cm:=⟨_,rfl⟩
   rw [← hS] at HC1
   have HSe:=Hd hS
   clear hS
   go_wp2_with (first | ((with_reducible refine HC1.out.mono ?_);rintro e' w11 ⟨rfl,HI1⟩;have f3:=obj_free HI1.out.h 5;have d3:=(obj_cell HI1.out.h 5).trans (show _=some (.string ⟨#[]⟩:Value) from rfl)))
   go_meet
   exact Hd (by rw [← HSe.out];exact HI1.out.set 5 (.string S))
 case rest=>
 have HId:=hcut
 clear HIc hcut
 obtain ⟨s13,hs13⟩:∃ s:Cur,s=takeS b s12 2:=⟨_,rfl⟩
 have A13:s13.at_≤b.length:=by rw [hs13];exact takeS_at A12
 obtain ⟨t13,ht13⟩:∃ t,t=takeB b s12 2:=⟨_,rfl⟩
 obtain ⟨ah,hah⟩:∃ t,t=b.take s12.at_:=⟨_,rfl⟩
 obtain ⟨s14,hs14⟩:∃ s:Cur,s=if bs then refS2 s13 (decide (s13.e=0∧num t13≠crc16 ah)) 7 else s12:=⟨_,rfl⟩
 have HEs13:=Hd hs13;have HEt13:=Hd ht13;have HEah:=Hd hah;have HEs14:=Hd hs14
 have d2:wc.cell? ⟨H,2,none⟩=some (.bool bs):=obj_cell HId.out.h 2
 clear hs13 ht13 hah hs14
 go_upto_if 66 with fail
 go_cut [5,6] from 67 to 91 (fun _ _ wx=>Hid (HdI w wx C H R bo c b s14 #[.bool bt,.bool bx,.bool bs,.slice xa nx kx,.string (strB nm),.string (strB cm),.int .i64 tm,.int .i64 xf,.int .i64 os] xa (nb ex)))
 case first=>
  cases bs with
  | false=>
   have e1:s14=s12:=HEs14.out
   go_wp2
   go_meet
   exact Hd (by rw [e1];exact HId.out)
  | true=>
   have e1:s14=refS2 s13 (decide (s13.e=0∧num t13≠crc16 ah)) 7:=HEs14.out
   have hRow:=HK.out.row wc HId.out.kept
   have c0:wc.cell? ⟨C,0,none⟩=some (.slice bo b.length c):=obj_cell HId.out.cur 0
   have c1:wc.cell? ⟨C,1,none⟩=some (.int .i64 (s12.at_:Int)):=obj_cell HId.out.cur 1
   obtain ⟨oa,hsl,hpt⟩:=slg_h bo b.length c s12.at_ b rfl A12 hRow.cap hRow.nil
   have hcap:=hRow.cap
   have hlb:=HK.out.len
   obtain ⟨p12,hp12⟩:∃ p,p=s12.at_:=⟨_,rfl⟩
   have hp12l:p12≤b.length:=by rw [hp12];exact A12
   rw [← hp12] at c1 hsl hpt
   obtain ⟨l,hl⟩:∃ l,l=b.length:=⟨_,rfl⟩
   rw [← hl] at c0 hsl hcap hlb hp12l
   have HP12:=Hd hp12;have HL:=Hd hl;have HPt:=Hd hpt;have HE1:=Hd e1
   clear hRow hpt hp12 hl e1
   go_upto_region 18 with fail
   go_quiet (fail)
   have hId:=HId.out.no ((Kept.refl NoB wc).drewN nq)
   generalize wc.drewN nq=wq at hId ⊢
   have HIq:=Hd hId
   clear hId HId c0 c1 hsl d2
   have HC1:=Hd (HK.out.take HIq.out A12 2 2 rfl (by decide))
   rw [← HEs13.out,← HEt13.out] at HC1
   have hlt:=takeB_len (b:=b) (s:=s12) (n:=2)
   have HAt:=Hd (takeB_all (s:=s12) (n:=2) (HK.out.row w (Kept.refl _ _)).all)
   rw [← HEt13.out] at hlt HAt
   go_wp2_with fail
   refine HC1.out.mono ?_
   rintro e' w11 ⟨o1,m1,k1,rfl,HI1,HM1,HR1,hmk1,hkc1,HN1⟩
   clear HC1 HIq
   have c2:w11.cell? ⟨C,2,none⟩=some (.int .i64 s13.e):=obj_cell HI1.out.cur 2
   by_cases he:s13.e=0
   ·rw [he] at c2
    have hra:=HK.out.row w11 HI1.out.kept
    have hah2:(b.drop 0).take (p12 - 0)=ah:=by rw [HEah.out,HP12.out];rfl
    have hrd:=HPt.out.reads w11 hra.rd
    rw [hah2] at hrd
    have hala:AllB ah:=by rw [HEah.out];exact hra.all.take _
    have hall:p12=ah.length:=by rw [HEah.out,List.length_take,HP12.out];omega
    have HQ:=Hd (numG_any w11 o1 m1 k1 t13 (HR1.out w11 HI1.out.kept) HAt.out HM1.out (by rw [HM1.out];omega))
    have HLs:=Hd (lowsum_any w11 oa p12 c ah hrd hala hall (by omega) hra.most (fun e=>hra.nil (HPt.out.nil.1 e)))
    obtain ⟨nt,hnt⟩:∃ n,n=num t13:=⟨_,rfl⟩
    obtain ⟨cr,hcr⟩:∃ n,n=crc16 ah:=⟨_,rfl⟩
    rw [← hnt] at HQ
    rw [← hcr] at HLs
    obtain ⟨x,hx⟩:∃ x:Bool,x=decide (nt≠cr):=⟨_,rfl⟩
    have hxe:((nt:Int) != (cr:Int))=x:=by
     rw [hx]
     by_cases h:nt=cr
     ·rw [h];simp
     ·rw [bne_iff_ne.2 (show (nt:Int)≠(cr:Int) by omega)];simp [h]
    have HX:Hid (s14=refS2 s13 x 7):=Hd (by rw [HE1.out,← hnt,← hcr,hx,he];simp)
    generalize s13.e=e13 at he
    clear hra hah2 hrd hala hall hnt hcr hx he
    go_wp2_with fail
    refine HQ.out.mono ?_
    rintro e' w12 ⟨rfl,rfl⟩
    go_wp2_with fail
    refine HLs.out.mono ?_
    rintro e' w13 ⟨rfl,hk13⟩
    have HC2:=Hd (HK.out.refuse (HI1.out.no hk13) x 7)
    rw [← HX.out] at HC2
    clear hk13 HQ HLs HI1
    go_wp2_with fail
    refine HC2.out.mono ?_
    rintro e' w14 ⟨rfl,HI2⟩
    go_wp2
    go_meet
    exact HI2
   ·have HX:Hid (s14=refS2 s13 false 7):=Hd (by rw [HE1.out,decide_eq_false (fun k=>he k.1)])
    have he2:(s13.e == 0)=false:=by simpa using he
    have HC2:=Hd (HK.out.refuse HI1.out false 7)
    rw [← HX.out] at HC2
    generalize s13.e=e13 at c2 he2
    clear he HI1
    go_wp2_with fail
    refine HC2.out.mono ?_
    rintro e' w14 ⟨rfl,HI2⟩
    go_wp2
    go_meet
    exact HI2
 case rest=>
 have HIe:=hcut
 clear HId hcut d2
 obtain ⟨arr,harr⟩:∃ arr:Array Value,arr=#[.bool bt,.bool bx,.bool bs,.slice xa nx kx,.string (strB nm),.string (strB cm),.int .i64 tm,.int .i64 xf,.int .i64 os]:=⟨_,rfl⟩
 have h1:arr.all (·.oneCell')=true:=by rw [harr,← Array.all_toList];rfl
 have hsz:(Tryz.prog.info? 42).map (·.size)=some arr.size:=by rw [harr];exact infoGz
 have hsz2:gz0.size=arr.size:=by rw [harr];rfl
 rw [← harr] at HIe
 obtain ⟨q1,q2,q3,q4⟩:=HIe.out.fin
 have Q1:=Hd q1;have Q2:=Hd q2;have Q3:=Hd q3;have Q4:=Hd q4;have HArr:=Hd harr;have HSz:=Hd hsz;have HSz2:=Hd hsz2;have HOne:=Hd h1
 have HXb2:=Hd HIe.out.xb
 clear q1 q2 q3 q4 harr hsz hsz2 h1
 go_wp2_with (first | (refine wpList_load_row rfl 42 (.tmp 3) rfl H rfl 42 arr (0,0) _ HIe.out.h Tryz.underlying42 rfl HSz.out ?_) | (refine wpList_store_row rfl 42 (.tmp 2) (.tmp 92) rfl R arr rfl rfl _ _ HIe.out.r HSz.out HSz2.out HOne.out ?_))
 generalize wc.setRow R arr=wz at Q1 Q2 Q3 Q4 ⊢
 go_wp2
 refine bodyPost_ret (results_cell_row rfl _ _ R 42 arr (0,0) _ rfl Q2.out Tryz.underlying42 rfl HSz.out) rfl ?_
 have hst:(hdS b).s14=s14:=by
  rw [HEs14.out,HEs13.out,HEt13.out,HEah.out,HEs12.out,HEs11.out,HEs10.out,HEs9.out,HEn2.out,HEs8.out,HEs7.out,HEs6.out,HEs5.out,HEbs.out,HEbx.out,HEbn.out,HEbm.out,HEb5.out,HEs4.out,HEfl.out,HEtf.out,HEs3.out,HEs2.out,HEs1.out,HS0.out]
  simp only [hdS,decide_eq_true_eq]
 have hg:hdG b=⟨bt,bx,bs,ex,nm,cm,tm,xf,os⟩:=by
  rw [HEbt.out,HEbx.out,HEbs.out,HEx.out,HEnm.out,HEcm.out,HEtm.out,HExf.out,HEos.out,HEtt.out,HEtx.out,HEtq.out]
  rw [HEs11.out,HEs10.out,HEs9.out,HEn2.out,HEs8.out,HEs7.out,HEs6.out,HEs5.out,HEbx.out,HEbn.out,HEbm.out,HEb5.out,HEs4.out,HEfl.out,HEtf.out,HEs3.out,HEs2.out,HEs1.out,HS0.out]
  simp only [hdG,hdS,decide_eq_true_eq]
  rfl
 refine ⟨xa,kx,?_,?_,Q3.out,?_,?_,HXb.out.2.1,HXb.out.2.2,fun q hq=>(HXb2.out q hq).1⟩
 ·rw [hg,HArr.out,HNx.out]
  rfl
 ·rw [hst];exact Q1.out
 ·rw [hg];exact Q4.out
 ·rw [hg];show ex.length≤kx;rw [← HNx.out];exact HXb.out.1
theorem reads_over {w W:World}{C:Nat}{bo:Option Addr}{b:List Int}(h:Reads w bo b)(hC:w.heap.size≤C)(hk:Kept (OneB C) w W):Reads W bo b:=by
 by_cases hb:b=[]
 ·subst hb
  cases bo with
  | none=>exact ⟨fun _=>rfl,fun a e=>by cases e⟩
  | some a=>exact reads_empty
 ·obtain ⟨g,o,rfl,hg,_⟩:=h.at (by cases b with | nil=>exact absurd rfl hb | cons=>simp)
  exact h.kept hk (fun a e=>by cases e;unfold OneB;show ¬ g=C;omega)
theorem CurRow.over {w W:World}{C:Nat}{bo:Option Addr}{c:Nat}{b:List Int}(h:CurRow w bo c b)(hC:w.heap.size≤C)(hk:Kept (OneB C) w W):CurRow W bo c b:=⟨reads_over h.rd hC hk,h.all,h.cap,h.most,h.nil⟩
theorem gz_cells {w:World}{R:Nat}{v0 v1 v2 v3 v4 v5 v6 v7 v8:Value}(h:w.heap[R]?=some (.cells #[v0,v1,v2,v3,v4,v5,v6,v7,v8] 42 (0,0))):
  w.cell? ⟨R,0,none⟩=some v0∧w.cell? ⟨R,1,none⟩=some v1∧w.cell? ⟨R,2,none⟩=some v2∧w.cell? ⟨R,3,none⟩=some v3∧w.cell? ⟨R,4,none⟩=some v4∧w.cell? ⟨R,5,none⟩=some v5∧w.cell? ⟨R,6,none⟩=some v6∧w.cell? ⟨R,7,none⟩=some v7∧w.cell? ⟨R,8,none⟩=some v8:=
 ⟨obj_cell h 0,obj_cell h 1,obj_cell h 2,obj_cell h 3,obj_cell h 4,obj_cell h 5,obj_cell h 6,obj_cell h 7,obj_cell h 8⟩
theorem gz_end {t:Array Value}{R:Nat}{n e:Int}{v0 v1 v2 v3 v4 v5 v6 v7 v8:Value}{wz:World}{Q:Ending→World→Prop}(h2:t.getD 2 undef = .pointer (some ⟨R,0,none⟩))(h3:t.getD 3 undef = .int .i64 n)(h4:t.getD 4 undef = .int .i64 e)
  (hz:wz.heap[R]?=some (.cells #[v0,v1,v2,v3,v4,v5,v6,v7,v8] 42 (0,0))) (hq:Q (.returned (.tuple #[.agg #[v0,v1,v2,v3,v4,v5,v6,v7,v8],.int .i64 n,.int .i64 e])) wz):bodyPost Tryz.prog Tryz.f20 Q .ret ⟨t,[]⟩ wz:=by
 obtain ⟨k0,k1,k2,k3,k4,k5,k6,k7,k8⟩:=gz_cells hz
 have h2':t[2]?.getD undef = .pointer (some ⟨R,0,none⟩):=by simpa using h2
 have h3':t[3]?.getD undef = .int .i64 n:=by simpa using h3
 have h4':t[4]?.getD undef = .int .i64 e:=by simpa using h4
 refine bodyPost_ret (v := .tuple #[.agg #[v0,v1,v2,v3,v4,v5,v6,v7,v8],.int .i64 n,.int .i64 e]) ?_ rfl hq
 simp [results,Tryz.results20,go_sem,h2',h3',h4',k0,k1,k2,k3,k4,k5,k6,k7,k8]
theorem gz_set9 {w:World}{R:Nat}(h:w.heap[R]?=some (.cells gz0 42 (0,0)))(v0 v1 v2 v3 v4 v5 v6 v7 v8:Value):
  ((((((((((w.setCell ⟨R,0,none⟩ v0).setCell ⟨R,1,none⟩ v1).setCell ⟨R,2,none⟩ v2).setCell ⟨R,3,none⟩ v3).setCell ⟨R,4,none⟩ v4).setCell ⟨R,5,none⟩ v5).setCell ⟨R,6,none⟩ v6).setCell ⟨R,7,none⟩ v7).setCell ⟨R,8,none⟩ v8).drew).heap[R]?=some (.cells #[v0,v1,v2,v3,v4,v5,v6,v7,v8] 42 (0,0))∧Kept (OneB R) w ((((((((((w.setCell ⟨R,0,none⟩ v0).setCell ⟨R,1,none⟩ v1).setCell ⟨R,2,none⟩ v2).setCell ⟨R,3,none⟩ v3).setCell ⟨R,4,none⟩ v4).setCell ⟨R,5,none⟩ v5).setCell ⟨R,6,none⟩ v6).setCell ⟨R,7,none⟩ v7).setCell ⟨R,8,none⟩ v8).drew):=by
 have st:∀ {W:World} (i:Nat) (v:Value),Kept (OneB R) w W→Kept (OneB R) w (W.setCell ⟨R,i,none⟩ v):=fun i v hk=>Kept.setCell (S:=OneB R) (p:=⟨R,i,none⟩) hk (.inl rfl) v
 have k0:Kept (OneB R) w w:=Kept.refl _ _
 have h0:w.heap[R]?=some (.cells #[.bool false,.bool false,.bool false,.slice none 0 0,.string ⟨#[]⟩,.string ⟨#[]⟩,.int .i64 0,.int .i64 0,.int .i64 0] 42 (0,0)):=h
 have h1:(w.setCell ⟨R,0,none⟩ v0).heap[R]?=some (.cells #[v0,.bool false,.bool false,.slice none 0 0,.string ⟨#[]⟩,.string ⟨#[]⟩,.int .i64 0,.int .i64 0,.int .i64 0] 42 (0,0)):=obj_set h0 0 v0
 have k1:=st 0 v0 k0
 generalize w.setCell ⟨R,0,none⟩ v0=w1 at h1 k1 ⊢
 have h2:(w1.setCell ⟨R,1,none⟩ v1).heap[R]?=some (.cells #[v0,v1,.bool false,.slice none 0 0,.string ⟨#[]⟩,.string ⟨#[]⟩,.int .i64 0,.int .i64 0,.int .i64 0] 42 (0,0)):=obj_set h1 1 v1
 have k2:=st 1 v1 k1
 generalize w1.setCell ⟨R,1,none⟩ v1=w2 at h2 k2 ⊢
 have h3:(w2.setCell ⟨R,2,none⟩ v2).heap[R]?=some (.cells #[v0,v1,v2,.slice none 0 0,.string ⟨#[]⟩,.string ⟨#[]⟩,.int .i64 0,.int .i64 0,.int .i64 0] 42 (0,0)):=obj_set h2 2 v2
 have k3:=st 2 v2 k2
 generalize w2.setCell ⟨R,2,none⟩ v2=w3 at h3 k3 ⊢
 have h4:(w3.setCell ⟨R,3,none⟩ v3).heap[R]?=some (.cells #[v0,v1,v2,v3,.string ⟨#[]⟩,.string ⟨#[]⟩,.int .i64 0,.int .i64 0,.int .i64 0] 42 (0,0)):=obj_set h3 3 v3
 have k4:=st 3 v3 k3
 generalize w3.setCell ⟨R,3,none⟩ v3=w4 at h4 k4 ⊢
 have h5:(w4.setCell ⟨R,4,none⟩ v4).heap[R]?=some (.cells #[v0,v1,v2,v3,v4,.string ⟨#[]⟩,.int .i64 0,.int .i64 0,.int .i64 0] 42 (0,0)):=obj_set h4 4 v4
 have k5:=st 4 v4 k4
 generalize w4.setCell ⟨R,4,none⟩ v4=w5 at h5 k5 ⊢
 have h6:(w5.setCell ⟨R,5,none⟩ v5).heap[R]?=some (.cells #[v0,v1,v2,v3,v4,v5,.int .i64 0,.int .i64 0,.int .i64 0] 42 (0,0)):=obj_set h5 5 v5
 have k6:=st 5 v5 k5
 generalize w5.setCell ⟨R,5,none⟩ v5=w6 at h6 k6 ⊢
 have h7:(w6.setCell ⟨R,6,none⟩ v6).heap[R]?=some (.cells #[v0,v1,v2,v3,v4,v5,v6,.int .i64 0,.int .i64 0] 42 (0,0)):=obj_set h6 6 v6
 have k7:=st 6 v6 k6
 generalize w6.setCell ⟨R,6,none⟩ v6=w7 at h7 k7 ⊢
 have h8:(w7.setCell ⟨R,7,none⟩ v7).heap[R]?=some (.cells #[v0,v1,v2,v3,v4,v5,v6,v7,.int .i64 0] 42 (0,0)):=obj_set h7 7 v7
 have k8:=st 7 v7 k7
 generalize w7.setCell ⟨R,7,none⟩ v7=w8 at h8 k8 ⊢
 have h9:(w8.setCell ⟨R,8,none⟩ v8).heap[R]?=some (.cells #[v0,v1,v2,v3,v4,v5,v6,v7,v8] 42 (0,0)):=obj_set h8 8 v8
 have k9:=st 8 v8 k8
 exact ⟨h9,k9.drew⟩
def gzN:GzP:=⟨false,false,false,[],[],[],0,0,0⟩
def ReadHR (w:World)(b:List Int)(e:Ending)(w':World):Prop:=
 ∃ (a:Option Addr) (k:Nat) (g:GzP) (n:Nat),e = .returned (.tuple #[.agg (gzV a k g),.int .i64 (n:Int),.int .i64 (hdS b).s14.e])∧Hid ((hdS b).s14.e=0→g=hdG b∧n=(hdS b).s14.at_)∧Hid ((hdS b).s14.e≠0→n=0)∧
  Hid (Reads w' a (nb g.extra)∧g.extra.length≤k∧k≤maxLen∧(a=none→k=0)∧(∀ q,a=some q→w.heap.size≤q.block))∧Kept NoB w w'
theorem readhead_any (w:World)(bo:Option Addr)(n c:Nat)(b:List Int)(hn:n=b.length)(hR:CurRow w bo c b)(hb:b.length≤1000000):
  Calls Tryz.prog 20 #[.slice bo n c] w (ReadHR w b):=by
 subst hn
 have hcur:CurO ((w.alloc (.cells gz0 42)).alloc (.cells #[.slice bo b.length c,.int .i64 0,.int .i64 0] 93)) (w.heap.size+1) bo c b ⟨0,0⟩:=by
  have s1:(w.alloc (.cells gz0 42)).heap.size=w.heap.size+1:=by simp
  unfold CurO
  rw [← s1]
  exact heap_alloc_new _ _
 have hres:((w.alloc (.cells gz0 42)).alloc (.cells #[.slice bo b.length c,.int .i64 0,.int .i64 0] 93)).heap[w.heap.size]?=some (.cells gz0 42 (0,0)):=((Kept.refl NoB (w.alloc (.cells gz0 42))).alloc _).obj (heap_alloc_new _ _) (fun e=>e)
 have hk0:Kept NoB w ((w.alloc (.cells gz0 42)).alloc (.cells #[.slice bo b.length c,.int .i64 0,.int .i64 0] 93)):=((Kept.refl _ _).alloc _).alloc _
 have HR:=Hd hR
 clear hR
 go_enter Tryz.func20,Tryz.ntmps20
 go_upto_region 2 with fail
 unfold gz0 at hcur hres hk0
 generalize (w.alloc (.cells #[.bool false,.bool false,.bool false,.slice none 0 0,.string ⟨#[]⟩,.string ⟨#[]⟩,.int .i64 0,.int .i64 0,.int .i64 0] 42)).alloc (.cells #[.slice bo b.length c,.int .i64 0,.int .i64 0] 93)=wb at hcur hres hk0 ⊢
 obtain ⟨C,hC⟩:∃ C,C=w.heap.size+1:=⟨_,rfl⟩
 rw [← hC] at hcur ⊢
 obtain ⟨R,hRe⟩:∃ R,R=w.heap.size:=⟨_,rfl⟩
 rw [← hRe] at hres ⊢
 have hCb:w.heap.size≤C:=by omega
 have HHd:=Hd (head_anyG wb C bo c b hcur (fun W hk=>HR.out.over hCb ((hk0.mono (fun _ _ e=>e.elim)).trans hk)) hb)
 have HRs:=Hd hres;have HK0:=Hd hk0;have HCe:=Hd hC;have HRe:=Hd hRe
 clear hcur hres hk0 hC hRe hCb
 go_wp2_with fail
 refine HHd.out.mono ?_
 rintro e' w1 ⟨a,k,rfl,h1,h2,h3,h4,h5,h6,h7⟩
 have hres1:=h2.obj HRs.out (fun e=>by have:=HCe.out;have:=HRe.out;unfold OneB at e;omega)
 have hf:=@hdS_fits b
 have HXr:=Hd h3;have HX:=Hd (And.intro h4 (And.intro h5 h6));have HXb:=Hd h7
 obtain ⟨s,hs⟩:∃ s,s=(hdS b).s14:=⟨_,rfl⟩
 rw [← hs] at h1 hf
 obtain ⟨p,e⟩:=s
 have HSe:=Hd hs;have HF:=Hd hf
 have hp:e=0→p≤1000000:=fun h=>by have:=hf h;dsimp only at this;omega
 obtain ⟨arr,harr⟩:∃ arr,arr=gzV a k (hdG b):=⟨_,rfl⟩
 have hone:arr.all (·.oneCell')=true:=by rw [harr];unfold gzV;rw [← Array.all_toList];rfl
 have hsz:(Tryz.prog.info? 42).map (·.size)=some arr.size:=by rw [harr];exact infoGz
 have hsz2:gz0.size=arr.size:=by rw [harr];rfl
 rw [← harr]
 have HSz2:=Hd hsz2
 have HArr:=Hd harr;have HOne:=Hd hone;have HSz:=Hd hsz
 have HRs1:=Hd hres1
 have c1:w1.cell? ⟨C,1,none⟩=some (.int .i64 (p:Int)):=obj_cell h1 1
 have c2:w1.cell? ⟨C,2,none⟩=some (.int .i64 e):=obj_cell h1 2
 have HK2:=Hd h2
 clear h1 h2 h3 h4 h5 h6 h7 hs hf harr hone hsz hres1 HHd
 have hG:(w1.alloc (.cells gz0 42)).heap[w1.heap.size]?=some (.cells gz0 42 (0,0)):=heap_alloc_new _ _
 have hG2:((w1.alloc (.cells gz0 42)).setRow w1.heap.size arr).heap[w1.heap.size]?=some (.cells arr 42 (0,0)):=setRow_heap _ _ _ arr _ _ hG
 have hk2:Kept NoB w1 ((w1.alloc (.cells gz0 42)).setRow w1.heap.size arr):=by
  have h1:Kept NoB w1 (w1.alloc (.cells gz0 42)):=(Kept.refl _ _).alloc _
  exact ⟨h1.os,h1.tape,h1.output,by simp [World.setRow],fun k hk hs=>(setRow_other _ _ k arr (by omega)).trans (h1.block k hk hs)⟩
 have hG1:=hG
 unfold gz0 at hG1 hG2 hk2
 have HG:=Hd hG1
 clear hG hG1
 go_upto_region 3 with (refine wpList_store_row rfl 42 (.tmp 6) (.tmp 11) rfl w1.heap.size arr rfl rfl _ _ HG.out HSz.out HSz2.out HOne.out ?_)
 generalize (w1.alloc (.cells #[.bool false,.bool false,.bool false,.slice none 0 0,.string ⟨#[]⟩,.string ⟨#[]⟩,.int .i64 0,.int .i64 0,.int .i64 0] 42)).setRow w1.heap.size arr=w2 at hG2 hk2 ⊢
 generalize w1.heap.size=G at hG2 ⊢
 have c1:=hk2.cell c1
 have c2:=hk2.cell c2
 have HR2:=Hd (hk2.obj HRs1.out (fun e=>e))
 have HG2:=Hd hG2
 have HKw:Hid (Kept NoB w w2):=Hd (by
  have h1:=HK2.out
  have h2:=HCe.out
  have h0:=HK0.out
  have h3:Kept NoB w w1:=⟨h1.os.trans h0.os,h1.tape.trans h0.tape,h1.output.trans h0.output,Nat.le_trans h0.size h1.size,fun i hi hs=>(h1.block i (Nat.lt_of_lt_of_le hi h0.size) (fun e=>by unfold OneB at e;omega)).trans (h0.block i hi hs)⟩
  exact h3.trans hk2)
 have HXr2:=Hd (HXr.out.keptNo hk2)
 clear hG2 hk2
 have hCR:¬ C=R:=by have:=HCe.out;have:=HRe.out;omega
 have hRC:¬ R=C:=fun h=>hCR h.symm
 have hrz:∀ i,w2.frozen? ⟨R,i,none⟩=false:=fun i=>obj_free HR2.out i
 have r0:w2.cell? ⟨R,0,none⟩=some (.bool false):=obj_cell HR2.out 0
 have r1:w2.cell? ⟨R,1,none⟩=some (.bool false):=obj_cell HR2.out 1
 have r2:w2.cell? ⟨R,2,none⟩=some (.bool false):=obj_cell HR2.out 2
 have r3:w2.cell? ⟨R,3,none⟩=some (.slice none 0 0):=obj_cell HR2.out 3
 have r4:w2.cell? ⟨R,4,none⟩=some (.string ⟨#[]⟩):=obj_cell HR2.out 4
 have r5:w2.cell? ⟨R,5,none⟩=some (.string ⟨#[]⟩):=obj_cell HR2.out 5
 have r6:w2.cell? ⟨R,6,none⟩=some (.int .i64 0):=obj_cell HR2.out 6
 have r7:w2.cell? ⟨R,7,none⟩=some (.int .i64 0):=obj_cell HR2.out 7
 have r8:w2.cell? ⟨R,8,none⟩=some (.int .i64 0):=obj_cell HR2.out 8
 by_cases he:e=0
 ·subst he
  obtain ⟨⟨t,x,s,E,N,Cm,tm,xf,os⟩,hg⟩:∃ g,g=hdG b:=⟨_,rfl⟩
  have HGe:=Hd hg
  have hg2:=HG2.out
  rw [HArr.out,← hg] at hg2
  have g0:w2.cell? ⟨G,0,none⟩=some (.bool t):=obj_cell hg2 0
  have g1:w2.cell? ⟨G,1,none⟩=some (.bool x):=obj_cell hg2 1
  have g2:w2.cell? ⟨G,2,none⟩=some (.bool s):=obj_cell hg2 2
  have g3:w2.cell? ⟨G,3,none⟩=some (.slice a E.length k):=obj_cell hg2 3
  have g4:w2.cell? ⟨G,4,none⟩=some (.string (strB N)):=obj_cell hg2 4
  have g5:w2.cell? ⟨G,5,none⟩=some (.string (strB Cm)):=obj_cell hg2 5
  have g6:w2.cell? ⟨G,6,none⟩=some (.int .i64 tm):=obj_cell hg2 6
  have g7:w2.cell? ⟨G,7,none⟩=some (.int .i64 xf):=obj_cell hg2 7
  have g8:w2.cell? ⟨G,8,none⟩=some (.int .i64 os):=obj_cell hg2 8
  clear hg hg2
  have h9:=gz_set9 HR2.out (.bool t) (.bool x) (.bool s) (.slice a E.length k) (.string (strB N)) (.string (strB Cm)) (.int .i64 tm) (.int .i64 xf) (.int .i64 os)
  have H9:=Hd h9
  clear h9
  go_wp2_with fail
  go_region
  go_wp2
  refine gz_end (R:=R) (n:=p) (e:=0) ?_ ?_ ?_ H9.out.1 ?_
  ·rfl
  ·rfl
  ·rfl
  have hse:=HSe.out
  refine ⟨a,k,hdG b,p,?_,Hd (fun _=>⟨rfl,by rw [← hse]⟩),Hd (fun h=>absurd (by rw [← hse]) h),Hd ⟨HXr2.out.kept H9.out.2 (fun q hq e=>?_),HX.out.1,HX.out.2.1,HX.out.2.2,fun q hq=>?_⟩,?_⟩
  ·rw [← hse,← HGe.out]
   rfl
  ·have h1:=HXb.out q hq
   have h2:=obj_lt HRs.out
   unfold OneB at e;omega
  ·have h1:=HXb.out q hq
   have h2:=HK0.out.size
   omega
  ·have h1:=H9.out.2
   have h2:=HKw.out
   have h3:=HRe.out
   exact ⟨h1.os.trans h2.os,h1.tape.trans h2.tape,h1.output.trans h2.output,Nat.le_trans h2.size h1.size,fun i hi hs=>(h1.block i (Nat.lt_of_lt_of_le hi h2.size) (fun e=>by unfold OneB at e;omega)).trans (h2.block i hi hs)⟩
 ·have he2:(e == 0)=false:=by simpa using he
  have he3:(e != 0)=true:=by simpa using he
  have h9:=gz_set9 HR2.out (.bool false) (.bool false) (.bool false) (.slice none 0 0) (.string ⟨#[]⟩) (.string ⟨#[]⟩) (.int .i64 0) (.int .i64 0) (.int .i64 0)
  have H9:=Hd h9
  have He:=Hd he
  clear h9 he
  go_wp2_with fail
  go_region
  all_goals go_wp2
  all_goals refine gz_end (R:=R) (n:=0) (e:=e) ?_ ?_ ?_ H9.out.1 ?_
  ·rfl
  ·rfl
  ·rfl
  have hse:=HSe.out
  refine ⟨none,0,gzN,0,?_,Hd (fun h=>absurd (by rw [← hse] at h;exact h) He.out),Hd (fun _=>rfl),Hd ⟨⟨fun _=>rfl,fun a h=>by cases h⟩,Nat.le_refl _,Nat.zero_le _,fun _=>rfl,fun q hq=>by cases hq⟩,?_⟩
  ·rw [← hse]
   rfl
  ·have h1:=H9.out.2
   have h2:=HKw.out
   have h3:=HRe.out
   exact ⟨h1.os.trans h2.os,h1.tape.trans h2.tape,h1.output.trans h2.output,Nat.le_trans h2.size h1.size,fun i hi hs=>(h1.block i (Nat.lt_of_lt_of_le hi h2.size) (fun e=>by unfold OneB at e;omega)).trans (h2.block i hi hs)⟩
end Go.Proofs.YtfmjfgmbjdhogaaGreatDoor
