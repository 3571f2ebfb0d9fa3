import Derived.Test.YtfmjfgmbjdhogaaGreatDoorMb23
set_option linter.unusedVariables false
set_option linter.unusedSimpArgs false
set_option maxRecDepth 20000
set_option maxHeartbeats 8000000
namespace Go.Proofs.YtfmjfgmbjdhogaaGreatDoor
open Go.RowKit
theorem symLen_big (s:Nat)(w:World)(h:286≤s)(h2:s≤1000):Calls Tryz.prog 121 #[.int .i64 (s:Int)] w fun e w'=>e = .returned (.tuple #[.int .i64 0,.int .i64 0,.bool false])∧w=w':=by
 have h1:¬ (s:Int) < 257:=by omega
 have h3:(285:Int) < (s:Int):=by omega
 go_enter Tryz.func121,Tryz.ntmps121
 go_wp2
 go_ret3
 exact ⟨rfl,rfl⟩
theorem symDist_big (s:Nat)(w:World)(h:30≤s)(h2:s≤1000):Calls Tryz.prog 122 #[.int .i64 (s:Int)] w fun e w'=>e = .returned (.tuple #[.int .i64 0,.int .i64 0,.bool false])∧w=w':=by
 have h1:¬ (s:Int) < 0:=by omega
 have h3:(29:Int) < (s:Int):=by omega
 go_enter Tryz.func122,Tryz.ntmps122
 go_wp2
 go_ret3
 exact ⟨rfl,rfl⟩
theorem symLenT (s:Nat)(w:World)(h:257≤s)(h2:s≤285):Calls Tryz.prog 121 #[.int .i64 (s:Int)] w fun e w'=>e = .returned (.tuple #[.int .i64 ((lenB (s:Int):Nat):Int),.int .i64 ((lenX (s:Int):Nat):Int),.bool true])∧w=w':=by
 by_cases h5:s=285
 ·subst h5
  exact symLen_last w
 ·have:=symLen_any (s - 257) w (by omega)
  rw [show 257+(s - 257)=s by omega] at this
  unfold lenB lenX
  rw [if_neg (by omega),if_neg (by omega),show ((s:Int) - 257).toNat=s - 257 by omega]
  exact this
theorem lenB_bd:∀ i,i < 29→3≤lenB ((257+i:Nat):Int)∧lenB ((257+i:Nat):Int)+2 ^ lenX ((257+i:Nat):Int)≤259∧lenX ((257+i:Nat):Int)≤5:=by decide +kernel
theorem db_bd:∀ i,i < 30→1≤db i∧db i+2 ^ de i≤32769∧de i≤13:=by decide +kernel
theorem ReadS.is {code:List Int}{T v p q:Nat}{s f:Int}(h:ReadS code T v p s f q)(h0:f=0)(hl:code.length≤320):∃ i:Nat,s=(i:Int)∧i < 320:=by
 rcases h with ⟨n,i,_,_,h3,_,_,_,h8,_,_⟩ | ⟨_,_,h1,h2⟩
 ·exact ⟨i,h8,by omega⟩
 ·rw [h0] at h1
  split at h1 <;> exact absurd h1 (by decide)
theorem readSymbol_any {lo:Nat}{w:World}{D:Nat}{v:IV}{lit dist:List Int}{out bs:List Int}{S:Nat→Prop}{R:Nat}{ao:Option Addr}{cap p:Nat}(h:InfS lo w D v (.sym lit dist) out bs S R ao cap p)(hlo:lo≤w.heap.size)(hsm:out.length≤900000):
  Calls Tryz.prog 131 #[.pointer (some ⟨D,0,none⟩),.pointer (some ⟨R,0,none⟩)] w fun e w'=>∃ er,e = .returned (.int .i64 er)∧ItemW lo w D v (.sym lit dist) out bs R ao cap p er w':=by
 obtain ⟨hcl,hcd,Dl,Dd,hli,hdi,gl,gd⟩:=h.mode
 have c9:=h.obj.c9
 rw [hli] at c9
 have hSR:¬ S R:=fun e=>(h.s R e).2.2.2.1 rfl
 have hpl:=h.rd.2.2.2.1
 obtain ⟨T,hT⟩:∃ T:Nat,min3 15 (8*bs.length - p)=T:=⟨(min3 15 (8*bs.length - p)).toNat,by unfold min3;omega⟩
 have HRd:=Hd (read_callsG lit Dl S R ao cap bs p T w gl h.rd hSR hcl.2.1 hcl.1 hT)
 have H:=Hd h;have HCl:=Hd hcl;have HCd:=Hd hcd;have HLi:=Hd hli;have HDi:=Hd hdi;have HT:=Hd hT;have HSR:=Hd hSR
 clear h hcl hcd hli hdi gl gd hSR hT
 go_enter Tryz.func131,Tryz.ntmps131
 go_wp2_with fail
 refine HRd.out.mono ?_
 rintro e w1 ⟨s,f,q,rfl,hS,hr1,hk1⟩
 have HSy:Hid (SymR bs lit p s f q):=Hd ⟨T,HT.out,hS⟩
 have HRS:=Hd hS
 have HI1:=Hd (H.out.moved hlo hk1 (fun _ e=>e) hr1)
 have HK1:=Hd hk1
 have hlo1:lo≤w1.heap.size:=by have:=hk1.size;omega
 have HL1:Hid (Kept (LoB lo) w w1):=Hd (hk1.mono (fun k _ e=>by unfold OneB at e;subst e;exact H.out.lowR))
 clear hS hr1 hk1 HRd c9
 by_cases hf:f=0
 ·subst hf
  obtain ⟨i,rfl,hi320⟩:=HRS.out.is rfl HCl.out.1
  have hpq:=HSy.out.le.2 rfl
  by_cases hs1:(i:Int) < 256
  ·have hw8:IntKind.u8.wrap (i:Int)=(i:Int):=by rw [IntWalk.u8_in _ (by omega)]
   have HP:=Hd (put_lit HI1.out hlo1 (i:Int) (by omega) hsm)
   go_wp2_with fail
   refine HP.out.mono ?_
   rintro e w2 ⟨er,rfl,hP⟩
   have HPt:=Hd hP
   clear hP HP
   go_wp2
   go_ret
   have hP:=HPt.out
   unfold PtR at hP
   rw [if_neg (by simp)] at hP
   have hpl2:(Tk.put ⟨0,0,(i:Int)⟩ out)=out++[(i:Int)]:=by unfold Tk.put;rw [if_pos rfl]
   rw [hpl2] at hP
   by_cases hm:v.most < (out++[(i:Int)]).length
   ·rw [if_pos hm] at hP
    obtain ⟨rfl,hk⟩:=hP
    refine ⟨5,rfl,H.out.fails hlo (HK1.out.trans (hk.mono (fun _ _ e=>e.elim))) (fun _ e=>e) (HI1.out.rd.keptNo hk) 5 (by decide) ⟨0,.fin,false,[],?_⟩⟩
    unfold ItemR
    refine ⟨_,0,q,HSy.out,?_⟩
    rw [List.length_append,List.length_singleton] at hm
    rw [if_neg (by decide),if_pos hs1,if_neg (by omega)]
   ·rw [if_neg hm] at hP
    obtain ⟨rfl,hk,sk',wn',hI⟩:=hP
    rw [List.length_append,List.length_singleton] at hm
    refine ⟨0,rfl,HL1.out.trans hk,_,_,_,_,_,hI,rfl,rfl,rfl,⟨rfl,rfl,rfl⟩,?_⟩
    rw [if_pos rfl]
    refine ⟨Steps.one ?_,hpq⟩
    unfold ItemR
    refine ⟨_,0,q,HSy.out,?_⟩
    rw [if_neg (by decide),if_pos hs1,if_pos (by omega)]
    exact ⟨rfl,rfl,rfl,rfl,rfl⟩
  ·by_cases hs2:i=256
   ·subst hs2
    have HE:=Hd (endBlock_any w1 D v HI1.out.obj)
    go_wp2_with fail
    refine HE.out.mono ?_
    rintro e w2 ⟨rfl,ho2,hk2⟩
    have HO2:=Hd ho2;have HK2:=Hd hk2
    clear ho2 hk2 HE
    go_wp2
    go_ret
    have hT:=H.out.turn hlo HK1.out HI1.out.rd HK2.out HO2.out rfl rfl rfl rfl (m':=endM v.la) (endM_nx _).symm H.out.er (fun _ e=>e) (fun _ e => .inl e) (by cases hla:v.la <;> trivial) (H.out.fixAt HK1.out HK2.out rfl rfl)
    refine ⟨0,rfl,hT.2,_,_,_,_,_,hT.1,rfl,rfl,rfl,⟨rfl,rfl,rfl⟩,?_⟩
    rw [if_pos rfl]
    refine ⟨Steps.one ?_,hpq⟩
    unfold ItemR
    refine ⟨_,0,q,HSy.out,?_⟩
    rw [if_neg (by decide),if_neg (by decide),if_pos (show ((256:Nat):Int)=256 from rfl)]
    exact ⟨rfl,rfl,rfl,rfl,rfl⟩
   ·have hs3:((i:Int) == 256)=false:=by simp;omega
    have hs2':¬ (i:Int)=256:=by omega
    have HS1:=Hd (show ¬ (i:Int) < 256 by omega);have HS2:=Hd hs2'
    by_cases hbig:286≤i
    ·have HSL:=Hd (symLen_big i w1 hbig (by omega))
     have HRN:=Hd (readNumber_bad w1 R 0 0)
     go_wp2_with fail
     refine HSL.out.mono ?_
     rintro e w2 ⟨rfl,rfl⟩
     go_wp2_with fail
     refine HRN.out.mono ?_
     rintro e w2 ⟨rfl,rfl⟩
     go_wp2
     go_ret
     refine ⟨3,rfl,H.out.fails hlo HK1.out (fun _ e=>e) HI1.out.rd 3 (by decide) ⟨0,.fin,false,[],?_⟩⟩
     unfold ItemR
     refine ⟨_,0,q,HSy.out,?_⟩
     rw [if_neg (by decide),if_neg (by have:=HS1.out;omega),if_neg (by have:=HS2.out;omega),if_pos (by omega)]
    ·have h285:¬ (285:Int) < (i:Int):=by omega
     have H285:=Hd h285
     have HSL:=Hd (symLenT i w1 (by omega) (by omega))
     have hbd:=lenB_bd (i - 257) (by omega)
     rw [show 257+(i - 257)=i by omega] at hbd
     obtain ⟨X,hX⟩:∃ X,X=lenX (i:Int):=⟨_,rfl⟩
     obtain ⟨B,hB⟩:∃ B,B=lenB (i:Int):=⟨_,rfl⟩
     rw [← hX,← hB] at HSL hbd
     have HX:=Hd hX;have HB:=Hd hB
     obtain ⟨hb1,hb2,hb3⟩:=hbd
     have hp2:1≤2 ^ X:=Nat.one_le_two_pow
     clear hX hB
     by_cases hsh:8*bs.length < q+X
     ·have HRN:=Hd (readNumber_no w1 R ao cap bs q X (B:Int) HI1.out.rd hsh)
      go_wp2_with fail
      refine HSL.out.mono ?_
      rintro e w2 ⟨rfl,rfl⟩
      go_wp2_with fail
      refine HRN.out.mono ?_
      rintro e w2 ⟨rfl,hk⟩
      have HK2:=Hd hk
      clear hk
      go_wp2
      go_ret
      refine ⟨2,rfl,H.out.fails hlo (HK1.out.trans (HK2.out.mono (fun _ _ e=>e.elim))) (fun _ e=>e) (HI1.out.rd.keptNo HK2.out) 2 (by decide) ⟨0,.fin,false,[],?_⟩⟩
      unfold ItemR
      refine ⟨_,0,q,HSy.out,?_⟩
      rw [if_neg (by decide),if_neg (by have:=HS1.out;omega),if_neg (by have:=HS2.out;omega),if_neg (by have:=H285.out;omega),← HX.out,if_pos hsh]
     ·have hlt:=bitsAt_lt bs q X
      have HRN:=Hd (readNumber_yes w1 R ao cap bs q X B HI1.out.rd (by omega) (by omega) (by omega))
      obtain ⟨L,hL⟩:∃ L,L=B+bitsAt bs q X:=⟨_,rfl⟩
      rw [← hL] at HRN
      have hL1:3≤L∧L≤258:=by omega
      have HL:=Hd hL
      clear hL hlt
      go_wp2_with fail
      refine HSL.out.mono ?_
      rintro e w2 ⟨rfl,rfl⟩
      go_wp2_with fail
      refine HRN.out.mono ?_
      rintro e w2 ⟨rfl,hr2,hk2⟩
      have HI2:=Hd (HI1.out.moved hlo1 hk2 (fun _ e=>e) hr2)
      have HK2:=Hd (HK1.out.trans hk2)
      have hlo2:lo≤w2.heap.size:=by have:=hk2.size;omega
      obtain ⟨_,_,Dl2,Dd2,hli2,hdi2,gl2,gd2⟩:=HI2.out.mode
      rw [HDi.out] at hdi2
      cases hdi2
      have c10:=HI2.out.obj.c10
      rw [HDi.out] at c10
      have hpl2:=hr2.2.2.2.1
      obtain ⟨T2,hT2⟩:∃ T:Nat,min3 15 (8*bs.length - (q+X:Nat))=T:=⟨(min3 15 (8*bs.length - (q+X:Nat))).toNat,by unfold min3;omega⟩
      have HRd2:=Hd (read_callsG dist Dd S R ao cap bs (q+X) T2 w2 gd2 hr2 HSR.out HCd.out.2.1 HCd.out.1 hT2)
      have HT2:=Hd hT2
      clear hr2 hk2 hli2 gl2 gd2 hpl2 hT2 HSL HRN
      go_wp2_with fail
      refine HRd2.out.mono ?_
      rintro e w3 ⟨d,f2,q2,rfl,hS2,hr3,hk3⟩
      have HSy2:Hid (SymR bs dist (q+X) d f2 q2):=Hd ⟨T2,HT2.out,hS2⟩
      have HRS2:=Hd hS2
      have HI3:=Hd (HI2.out.moved hlo2 hk3 (fun _ e=>e) hr3)
      have HK3:=Hd (HK2.out.trans hk3)
      have hlo3:lo≤w3.heap.size:=by have:=hk3.size;omega
      clear hS2 hr3 hk3 HRd2 c10
      by_cases hf2:f2=0
      ·subst hf2
       obtain ⟨j,rfl,hj320⟩:=HRS2.out.is rfl HCd.out.1
       have hqq:=HSy2.out.le.2 rfl
       by_cases hj:30≤j
       ·have HSD:=Hd (symDist_big j w3 hj (by omega))
        have HRN:=Hd (readNumber_bad w3 R 0 0)
        go_wp2_with fail
        refine HSD.out.mono ?_
        rintro e w4 ⟨rfl,rfl⟩
        go_wp2_with fail
        refine HRN.out.mono ?_
        rintro e w4 ⟨rfl,rfl⟩
        go_wp2
        go_ret
        refine ⟨3,rfl,H.out.fails hlo HK3.out (fun _ e=>e) HI3.out.rd 3 (by decide) ⟨0,.fin,false,[],?_⟩⟩
        unfold ItemR
        refine ⟨_,0,q,HSy.out,?_⟩
        rw [if_neg (by decide),if_neg (by have:=HS1.out;omega),if_neg (by have:=HS2.out;omega),if_neg (by have:=H285.out;omega),← HX.out,if_neg hsh]
        refine ⟨_,0,q2,HSy2.out,?_⟩
        rw [if_neg (by decide),if_pos (by omega)]
       ·have HSD:=Hd (symDist_any j w3 (by omega))
        have hbd:=db_bd j (by omega)
        obtain ⟨E,hE⟩:∃ E,E=de j:=⟨_,rfl⟩
        obtain ⟨C,hC⟩:∃ C,C=db j:=⟨_,rfl⟩
        rw [← hE,← hC] at HSD hbd
        have HE:=Hd hE;have HC:=Hd hC
        obtain ⟨hd1,hd2,hd3⟩:=hbd
        have hp3:1≤2 ^ E:=Nat.one_le_two_pow
        clear hE hC
        have h29:¬ (29:Int) < (j:Int):=by omega
        have H29:=Hd h29
        by_cases hsh2:8*bs.length < q2+E
        ·have HRN:=Hd (readNumber_no w3 R ao cap bs q2 E (C:Int) HI3.out.rd hsh2)
         go_wp2_with fail
         refine HSD.out.mono ?_
         rintro e w4 ⟨rfl,rfl⟩
         go_wp2_with fail
         refine HRN.out.mono ?_
         rintro e w4 ⟨rfl,hk⟩
         have HK4:=Hd hk
         clear hk
         go_wp2
         go_ret
         refine ⟨2,rfl,H.out.fails hlo (HK3.out.trans (HK4.out.mono (fun _ _ e=>e.elim))) (fun _ e=>e) (HI3.out.rd.keptNo HK4.out) 2 (by decide) ⟨0,.fin,false,[],?_⟩⟩
         unfold ItemR
         refine ⟨_,0,q,HSy.out,?_⟩
         rw [if_neg (by decide),if_neg (by have:=HS1.out;omega),if_neg (by have:=HS2.out;omega),if_neg (by have:=H285.out;omega),← HX.out,if_neg hsh]
         refine ⟨_,0,q2,HSy2.out,?_⟩
         rw [if_neg (by decide),if_neg (by have:=H29.out;omega),Int.toNat_natCast,← HE.out,if_pos hsh2]
        ·have hlt:=bitsAt_lt bs q2 E
         have hE13:(2:Nat) ^ E≤2 ^ 13:=Nat.pow_le_pow_right (by decide) hd3
         have HRN:=Hd (readNumber_yes w3 R ao cap bs q2 E C HI3.out.rd (by omega) (by omega) (by omega))
         obtain ⟨Y,hY⟩:∃ Y,Y=C+bitsAt bs q2 E:=⟨_,rfl⟩
         rw [← hY] at HRN
         have hY1:1≤Y∧Y≤32768:=by omega
         have HY:=Hd hY
         clear hY hlt hE13
         go_wp2_with fail
         refine HSD.out.mono ?_
         rintro e w4 ⟨rfl,rfl⟩
         go_wp2_with fail
         refine HRN.out.mono ?_
         rintro e w4 ⟨rfl,hr4,hk4⟩
         have HI4:=Hd (HI3.out.moved hlo3 hk4 (fun _ e=>e) hr4)
         have HK4:=Hd (HK3.out.trans hk4)
         have hlo4:lo≤w4.heap.size:=by have:=hk4.size;omega
         have HP:=Hd (put_copy HI4.out hlo4 L Y hL1 hY1 hsm)
         clear hr4 hk4 HSD HRN
         go_wp2_with fail
         refine HP.out.mono ?_
         rintro e w5 ⟨er,rfl,hP⟩
         have HPt:=Hd hP
         clear hP HP
         go_wp2
         go_ret
         have hP:=HPt.out
         unfold PtR at hP
         have hpl2:(Tk.put ⟨(L:Int),(Y:Int),0⟩ out)=copyN Y L out:=by
          unfold Tk.put
          rw [if_neg (by simp only;omega)]
          simp
         have hpln:=copyN_len Y L out
         rw [hpl2] at hP
         have hKR:=HK4.out
         have hin:∀ (er:Int) (p1:Nat) (m1:Md) (l1:Bool) (o1:List Int),(if out.length < Y then er=4 else if v.most < out.length+L then er=5 else er=0∧p1=q2+E∧m1 = .sym lit dist∧l1=v.la∧o1=copyN Y L out)→ItemR bs v.most p (.sym lit dist) v.la out er p1 m1 l1 o1:=by
          intro er p1 m1 l1 o1 hh
          unfold ItemR
          refine ⟨_,0,q,HSy.out,?_⟩
          rw [if_neg (by decide),if_neg (by have:=HS1.out;omega),if_neg (by have:=HS2.out;omega),if_neg (by have:=H285.out;omega),← HX.out,if_neg hsh]
          refine ⟨_,0,q2,HSy2.out,?_⟩
          rw [if_neg (by decide),if_neg (by have:=H29.out;omega),Int.toNat_natCast,← HE.out,if_neg hsh2,← HC.out,← HY.out,← HB.out,← HL.out]
          exact hh
         by_cases hm1:out.length < Y
         ·rw [if_pos (by simpa using hm1)] at hP
          obtain ⟨rfl,hk⟩:=hP
          exact ⟨4,rfl,H.out.fails hlo (hKR.trans (hk.mono (fun _ _ e=>e.elim))) (fun _ e=>e) (HI4.out.rd.keptNo hk) 4 (by decide) ⟨0,.fin,false,[],hin _ _ _ _ _ (by rw [if_pos hm1])⟩⟩
         ·rw [if_neg (by simpa using hm1)] at hP
          by_cases hm2:v.most < out.length+L
          ·rw [if_pos (by rw [hpln];exact hm2)] at hP
           obtain ⟨rfl,hk⟩:=hP
           exact ⟨5,rfl,H.out.fails hlo (hKR.trans (hk.mono (fun _ _ e=>e.elim))) (fun _ e=>e) (HI4.out.rd.keptNo hk) 5 (by decide) ⟨0,.fin,false,[],hin _ _ _ _ _ (by rw [if_neg hm1,if_pos hm2])⟩⟩
          ·rw [if_neg (by rw [hpln];exact hm2)] at hP
           obtain ⟨rfl,hk,sk',wn',hI⟩:=hP
           refine ⟨0,rfl,(hKR.mono (fun k _ e=>by unfold OneB at e;subst e;exact H.out.lowR)).trans hk,_,_,_,_,_,hI,rfl,rfl,rfl,⟨rfl,rfl,rfl⟩,?_⟩
           rw [if_pos rfl]
           exact ⟨Steps.one (hin _ _ _ _ _ (by rw [if_neg hm1,if_neg hm2];exact ⟨rfl,rfl,rfl,rfl,rfl⟩)),by omega⟩
      ·have g2:(f2 != 0)=true:=by simpa using hf2
       go_wp2
       go_ret
       refine ⟨f2,rfl,H.out.fails hlo HK3.out (fun _ e=>e) HI3.out.rd f2 hf2 ⟨0,.fin,false,[],?_⟩⟩
       unfold ItemR
       refine ⟨_,0,q,HSy.out,?_⟩
       rw [if_neg (by decide),if_neg (by have:=HS1.out;omega),if_neg (by have:=HS2.out;omega),if_neg (by have:=H285.out;omega),← HX.out,if_neg hsh]
       exact ⟨d,f2,q2,HSy2.out,by rw [if_pos hf2]⟩
 ·have g0:(f != 0)=true:=by simpa using hf
  go_wp2
  go_ret
  refine ⟨f,rfl,H.out.fails hlo HK1.out (fun _ e=>e) HI1.out.rd f hf ⟨0,.fin,false,[],?_⟩⟩
  unfold ItemR
  exact ⟨s,f,q,HSy.out,by rw [if_pos hf]⟩
theorem readItem_any {lo:Nat}{w:World}{D:Nat}{v:IV}{m:Md}{out bs:List Int}{S:Nat→Prop}{R:Nat}{ao:Option Addr}{cap p:Nat}(h:InfS lo w D v m out bs S R ao cap p)(hlo:lo≤w.heap.size)(hm:m ≠ .fin)(hal:Al m p)(hsm:out.length≤900000)(hbl:bs.length≤1000000):
  Calls Tryz.prog 98 #[.pointer (some ⟨D,0,none⟩),.pointer (some ⟨R,0,none⟩)] w fun e w'=>∃ er,e = .returned (.int .i64 er)∧ItemW lo w D v m out bs R ao cap p er w':=by
 have c6:=h.obj.c6
 rw [h.nx] at c6
 cases m with
 | fin=>exact absurd rfl hm
 | block=>
  have HC:=Hd (readBlock_any h hlo)
  have c6:w.cell? ⟨D,6,none⟩=some (.int .i64 0):=c6
  clear h hm
  go_enter Tryz.func98,Tryz.ntmps98
  go_wp2_with fail
  refine HC.out.mono ?_
  rintro e w1 ⟨er,rfl,hW⟩
  have HW:=Hd hW
  clear hW
  go_wp2
  go_ret
  exact ⟨er,rfl,HW.out⟩
 | stored=>
  have HC:=Hd (readStored_any h hlo)
  have c6:w.cell? ⟨D,6,none⟩=some (.int .i64 1):=c6
  clear h hm
  go_enter Tryz.func98,Tryz.ntmps98
  go_wp2_with fail
  refine HC.out.mono ?_
  rintro e w1 ⟨er,rfl,hW⟩
  have HW:=Hd hW
  clear hW
  go_wp2
  go_ret
  exact ⟨er,rfl,HW.out⟩
 | bytes n=>
  have HC:=Hd (readBytes_any h hlo (hal n rfl) hsm hbl)
  have c6:w.cell? ⟨D,6,none⟩=some (.int .i64 2):=c6
  clear h hm hal
  go_enter Tryz.func98,Tryz.ntmps98
  go_wp2_with fail
  refine HC.out.mono ?_
  rintro e w1 ⟨er,rfl,hW⟩
  have HW:=Hd hW
  clear hW
  go_wp2
  go_ret
  exact ⟨er,rfl,HW.out⟩
 | head=>
  have HC:=Hd (readHead_any h hlo)
  have c6:w.cell? ⟨D,6,none⟩=some (.int .i64 3):=c6
  clear h hm
  go_enter Tryz.func98,Tryz.ntmps98
  go_wp2_with fail
  refine HC.out.mono ?_
  rintro e w1 ⟨er,rfl,hW⟩
  have HW:=Hd hW
  clear hW
  go_wp2
  go_ret
  exact ⟨er,rfl,HW.out⟩
 | sym lit dist=>
  have HC:=Hd (readSymbol_any h hlo hsm)
  have c6:w.cell? ⟨D,6,none⟩=some (.int .i64 4):=c6
  clear h hm hal
  go_enter Tryz.func98,Tryz.ntmps98
  go_wp2_with fail
  refine HC.out.mono ?_
  rintro e w1 ⟨er,rfl,hW⟩
  have HW:=Hd hW
  clear hW
  go_wp2
  go_ret
  exact ⟨er,rfl,HW.out⟩
structure Inf0 (lo:Nat)(w:World)(D:Nat)(v:IV)(m:Md)(out bs:List Int)(S:Nat→Prop):Prop where
 obj:InfO w D v
 low:lo≤D
 sink:RowU w lo v.sk out
 rest:RowU w lo v.rs bs
 win:∃ wnd,RowU w lo v.wn wnd∧Sfx wnd out∧wnd.length < 98304
 sep:∀ k,v.sk.ownBlock=some k→v.wn.ownBlock≠some k
 s:∀ k,S k→lo≤k∧k < w.heap.size∧k≠D∧v.sk.ownBlock≠some k∧v.wn.ownBlock≠some k
 sR:∀ k,v.rs.ownBlock=some k→S k
 nx:v.nx=nxOf m
 er:v.er=0
 fit:out.length≤v.most
 big:v.most≤9223372036854775807
 all:AllB out
 allr:AllB bs
 mode:ModeOk w S v m
 fix:FixOk w S v
theorem InfS.drop {lo:Nat}{w:World}{D:Nat}{v:IV}{m:Md}{out bs:List Int}{S:Nat→Prop}{R:Nat}{ao:Option Addr}{cap p:Nat}(h:InfS lo w D v m out bs S R ao cap p):Inf0 lo w D v m out bs S:=
 ⟨h.obj,h.low,h.sink,h.rest,h.win,h.sep,fun k hk=>by obtain ⟨a,b,c,_,d⟩:=h.s k hk;exact ⟨a,b,c,d⟩,h.sR,h.nx,h.er,h.fit,h.big,h.all,h.rd.2.2.2.2,h.mode,h.fix⟩
theorem Inf0.with {lo:Nat}{w w':World}{D:Nat}{v:IV}{m:Md}{out bs:List Int}{S:Nat→Prop}(h:Inf0 lo w D v m out bs S)(hlo:lo≤w.heap.size){R:Nat}{ao:Option Addr}{cap p:Nat}(hk:Kept NoB w w')(hr:Rdr w' R ao cap bs p)(hR:w.heap.size≤R)(ha:∀ k,(Value.slice ao bs.length cap).ownBlock=some k→w.heap.size≤k):
  ∃ S',InfS lo w' D v m out bs S' R ao cap p:=by
 obtain ⟨wnd,hw,hx,hz⟩:=h.win
 have hD:=obj_lt h.obj
 have hsk:=own_lt h.sink.own
 have hwn:=own_lt hw.own
 have hRl:=obj_lt hr.1
 have hkz:=hk.size
 have haR:∀ k,(Value.slice ao bs.length cap).ownBlock=some k→k≠R:=row_ne hr.2.1 hr.1 (by decide)
 have hal:=own_lt hr.2.1
 refine ⟨fun k=>S k∨(Value.slice ao bs.length cap).ownBlock=some k,h.obj.kept hk (fun e=>e),h.low,by omega,h.sink.kept hk (fun _ _ e=>e),h.rest.kept hk (fun _ _ e=>e),⟨wnd,hw.kept hk (fun _ _ e=>e),hx,hz⟩,h.sep,hr,?_,fun k e => .inl (h.sR k e),?_,h.nx,h.er,h.fit,h.big,h.all,(h.mode.kept hk (fun _ _ e=>e) rfl rfl rfl).more (fun _ e => .inl e),(h.fix.kept hk (fun _ _ e=>e) rfl rfl).more (fun _ e => .inl e)⟩
 ·intro k hk1
  rcases hk1 with hk1 | hk1
  ·obtain ⟨a,b,c,d,e⟩:=h.s k hk1
   exact ⟨a,by omega,c,by omega,d,e⟩
  ·have h1:=ha k hk1
   have h2:=hal k hk1
   exact ⟨by omega,h2,by omega,haR k hk1,fun e=>by have:=hsk k e;omega,fun e=>by have:=hwn k e;omega⟩
 ·intro a e
  right
  subst e
  exact own_block hr.2.1 rfl
theorem keep_any {lo:Nat}{w:World}{D:Nat}{v:IV}{m:Md}{out bs:List Int}{S:Nat→Prop}(h:Inf0 lo w D v m out bs S)(hlo:lo≤w.heap.size)(p:Nat)(hp:p≤8*bs.length)(hbl:bs.length≤1000000)(fr:Nat)(hfr:v.fr=(fr:Int))(hfl:fr≤1000000000000):
  Calls Tryz.prog 99 #[.pointer (some ⟨D,0,none⟩),.int .i64 (p:Int)] w fun e w'=>e = .returned (.tuple #[])∧Kept (LoB lo) w w'∧∃ rs' S',Inf0 lo w' D { v with rs:=rs',fr:=((fr+p / 8:Nat):Int),sp:=((p % 8:Nat):Int) } m out (bs.drop (p / 8)) S':=by
 obtain ⟨ra,rc,hrs⟩:=own_shape h.rest.own
 have hcap:=own_cap (by have:=h.rest.own;rw [hrs] at this;exact this)
 have c3:=h.obj.c3
 rw [hrs] at c3
 obtain ⟨q,hq⟩:∃ q,q=p / 8:=⟨_,rfl⟩
 obtain ⟨t,ht⟩:∃ t,t=p % 8:=⟨_,rfl⟩
 obtain ⟨L,hL⟩:∃ L,L=bs.length:=⟨_,rfl⟩
 have hpq:(p:Int) / 8=(q:Int):=by omega
 have hpt:(p:Int) % 8=(t:Int):=by omega
 have hqL:q≤L:=by omega
 rw [← hq,← ht]
 rw [← hL] at hcap hbl c3
 have hrd:Reads w ra bs:=own_reads (by have:=h.rest.own;rw [hrs] at this;exact this) rfl
 have hdl:(bs.drop q).length=L - q:=by rw [List.length_drop,hL]
 have HI:=Hd h
 have HRd:=Hd hrd;have HDl:=Hd hdl;have HRs:=Hd hrs
 have hnil:ra=none→rc=0:=own_nil (by have:=h.rest.own;rw [hrs] at this;exact this)
 have hshape:∀ a,ra=some a→∃ g,a=⟨g,0,none⟩:=fun a ha=>by
  have:=h.rest.own
  rw [hrs,ha] at this
  rcases this.2 with ⟨hv,_⟩ | ⟨g,c,cur,hv,_⟩
  ·simp at hv
  ·simp at hv;exact ⟨g,hv.1⟩
 -- the clone,the cells
 have HFin:Hid (∀ (W:World) (o1:Option Addr) (c1:Nat),W=w→Reads W o1 (bs.drop q)→Calls Tryz.prog 54 #[.slice o1 (L - q) c1] W (Copied W o1 (bs.drop q))):=Hd fun W o1 c1 hW hr=>by
  rw [← hdl]
  exact clone_any o1 c1 (bs.drop q) W hr (by rw [hdl];omega)
 have hend:Hid (∀ (w1:World) (a1:Option Addr) (c1:Nat),Kept NoB w w1→w1.ownsRow 0 5 1 (.slice a1 (L - q) c1) (L - q) ((bs.drop q).map (.int .u8))→(∀ k,(Value.slice a1 (L - q) c1).ownBlock=some k→w.heap.size≤k)→
   ∀ w4,w4=((w1.setCell ⟨D,3,none⟩ (.slice a1 (L - q) c1)).setCell ⟨D,4,none⟩ (.int .i64 ((fr+q:Nat):Int))).setCell ⟨D,5,none⟩ (.int .i64 (t:Int))→
   Kept (LoB lo) w w4∧∃ rs' S',Inf0 lo w4 D { v with rs:=rs',fr:=((fr+q:Nat):Int),sp:=(t:Int) } m out (bs.drop q) S'):=Hd fun w1 a1 c1 hk hown hfr2 w4 hw4=>by
  have ho1:=HI.out.obj.kept hk (fun e=>e)
  have ho4:InfO w4 D { v with rs := .slice a1 (L - q) c1,fr:=((fr+q:Nat):Int),sp:=(t:Int) }:=by rw [hw4];exact ((ho1.setRs _).setFr _).setSp _
  have hk4:Kept (OneB D) w1 w4:=by
   rw [hw4]
   exact Kept.setCell (p:=⟨D,5,none⟩) (Kept.setCell (p:=⟨D,4,none⟩) (Kept.setCell (p:=⟨D,3,none⟩) (Kept.refl (OneB D) w1) (.inl rfl) _) (.inl rfl) _) (.inl rfl) _
  have hka:Kept (OneB D) w w4:=(hk.mono (fun _ _ e=>e.elim)).trans hk4
  obtain ⟨wnd,hw,hx,hz⟩:=HI.out.win
  have hD:=obj_lt HI.out.obj
  have hskl:=own_lt HI.out.sink.own
  have hwnl:=own_lt hw.own
  have hown4:w4.ownsRow 0 5 1 (.slice a1 (L - q) c1) (L - q) ((bs.drop q).map (.int .u8)):=hk4.row hown (fun k e1 e2=>row_ne hown ho1 (by decide) k e1 e2)
  have hol:=own_lt hown4
  refine ⟨hka.mono (fun k _ e=>by unfold OneB at e;subst e;exact HI.out.low),.slice a1 (L - q) c1,fun k=>S k∨(Value.slice a1 (L - q) c1).ownBlock=some k,ho4,HI.out.low,?_,⟨by rw [HDl.out];exact hown4,fun k hk=>by have:=hfr2 k hk;omega⟩,⟨wnd,?_,hx,hz⟩,HI.out.sep,?_,fun k e => .inr e,HI.out.nx,HI.out.er,HI.out.fit,HI.out.big,HI.out.all,HI.out.allr.drop _,?_,?_⟩
  ·exact HI.out.sink.kept hka (fun k e1 e2=>row_ne HI.out.sink.own HI.out.obj (by decide) k e1 e2)
  ·exact hw.kept hka (fun k e1 e2=>row_ne hw.own HI.out.obj (by decide) k e1 e2)
  ·intro k hk1
   have hz4:=hka.size
   rcases hk1 with hk1 | hk1
   ·obtain ⟨a,b,c,d⟩:=HI.out.s k hk1
    exact ⟨a,by omega,c,d⟩
   ·have h1:=hfr2 k hk1
    exact ⟨by omega,hol k hk1,by omega,fun e=>by have:=hskl k e;omega,fun e=>by have:=hwnl k e;omega⟩
  ·exact (HI.out.mode.kept hka (fun k hk e=>(HI.out.s k hk).2.2.1 e) rfl rfl rfl).more (fun _ e => .inl e)
  ·exact (HI.out.fix.kept hka (fun k hk e=>(HI.out.s k hk).2.2.1 e) rfl rfl).more (fun _ e => .inl e)
 have c4:=h.obj.c4
 have c5:=h.obj.c5
 rw [hfr] at c4
 have hfq:(fr:Int)+(q:Int)=((fr+q:Nat):Int):=by omega
 have hfqb:fr+q≤2000000000000:=by omega
 obtain ⟨F,hF⟩:∃ F,F=fr+q:=⟨_,rfl⟩
 rw [← hF] at hend hfq hfqb ⊢
 clear h hrd hdl hrs hq ht hL hF hp
 have hwalk:∀ (o1:Option Addr) (c1:Nat),Reads w o1 (bs.drop q)→(∀ W:World,(Instr.slice 22 (.slice ra L rc) (some (.int .i64 (q:Int))) none none).run Tryz.prog W = .ok (.slice o1 (L - q) c1) W)→
   Calls Tryz.prog 99 #[.pointer (some ⟨D,0,none⟩),.int .i64 (p:Int)] w fun e w'=>e = .returned (.tuple #[])∧Kept (LoB lo) w w'∧∃ rs' S',Inf0 lo w' D { v with rs:=rs',fr:=(F:Int),sp:=(t:Int) } m out (bs.drop q) S':=by
  intro o1 c1 hr hsl
  have HCl:=Hd (HFin.out w o1 c1 rfl hr)
  clear hr
  go_enter Tryz.func99,Tryz.ntmps99
  go_wp2_with fail
  refine HCl.out.mono ?_
  rintro e w1 ⟨a1,c1',rfl,hown,hfr2,_,hk1⟩
  rw [HDl.out] at hown hfr2 ⊢
  have ho1:=HI.out.obj.kept hk1 (fun e=>e)
  have c3':=ho1.c3
  rw [HRs.out] at c3'
  have f3:=ho1.free 3
  have f4:=ho1.free 4
  have f5:=ho1.free 5
  have c4':=ho1.c4
  have c5':=ho1.c5
  rw [hfr] at c4'
  have HE:=Hd (hend.out w1 a1 c1' hk1 hown hfr2 _ rfl)
  clear hown hfr2 hk1 ho1 hsl c3 c4 c5
  go_wp2
  refine bodyPost_end (results_none rfl _ _ _) rfl ?_
  exact ⟨rfl,HE.out.1,HE.out.2⟩
 have hso:∀ W:World,(sizeOf (Tryz.prog.elem 22)).run Tryz.prog W = .ok 1 W:=fun W=>by rfl
 by_cases hc:rc=q
 ·have hLq:L=q:=by omega
  refine hwalk ra 0 ?_ (fun W=>?_)
  ·have:bs.drop q=[]:=List.eq_nil_of_length_eq_zero (by rw [HDl.out];omega)
   rw [this]
   cases ra with
   | none=>exact ⟨fun _=>rfl,fun a ha=>by cases ha⟩
   | some a=>exact reads_empty
  ·rw [run_slice_l (P:=Tryz.prog) (w:=W) 22 ra L rc (by kernel_rfl) .i64 (q:Int) (by omega) (by omega)]
   subst hLq
   subst hc
   rw [hso]
   simp only [Result.andThen,sliced]
   rw [if_pos (by omega)]
   congr 2 <;> omega
 ·obtain ⟨a,rfl⟩:∃ a,ra=some a:=by
   cases ra with
   | none=>have:=hnil rfl;omega
   | some a=>exact ⟨a,rfl⟩
  obtain ⟨g,rfl⟩:=hshape a rfl
  refine hwalk (some ⟨g,q,none⟩) (rc - q) ?_ (fun W=>?_)
  ·have:=reads_drop q HRd.out
   have e:(⟨g,0,none⟩:Addr).add q=⟨g,q,none⟩:=by simp [Addr.add];omega
   rwa [e] at this
  ·rw [run_slice_l (P:=Tryz.prog) (w:=W) 22 _ L rc (by kernel_rfl) .i64 (q:Int) (by omega) (by omega)]
   rw [hso]
   simp only [Result.andThen,sliced,Int.toNat_natCast]
   rw [if_neg hc]
   simp [Addr.add]
   intro h0
   exact h0.symm
structure InfE (lo:Nat)(w:World)(D:Nat)(v:IV)(out:List Int):Prop where
 obj:InfO w D v
 low:lo≤D
 sink:RowU w lo v.sk out
 fit:out.length≤v.most
 big:v.most≤9223372036854775807
 all:AllB out
theorem InfE.turn {lo:Nat}{w w':World}{D:Nat}{v v':IV}{out:List Int}(h:InfE lo w D v out)(hk:Kept (OneB D) w w')(ho:InfO w' D v')(e1:v'.sk=v.sk)(e2:v'.most=v.most):InfE lo w' D v' out:=
 ⟨ho,h.low,by rw [e1];exact h.sink.kept hk (fun k e1 e2=>row_ne h.sink.own h.obj (by decide) k e1 e2),by rw [e2];exact h.fit,by rw [e2];exact h.big,h.all⟩
theorem Inf0.fin {lo:Nat}{w:World}{D:Nat}{v:IV}{m:Md}{out bs:List Int}{S:Nat→Prop}(h:Inf0 lo w D v m out bs S):InfE lo w D v out:=⟨h.obj,h.low,h.sink,h.fit,h.big,h.all⟩
def ItemsW (lo : Nat) (w : World) (D : Nat) (v : IV) (m : Md) (out bs : List Int) (p0 fr : Nat) (w' : World) : Prop :=
  Kept (LoB lo) w w' ∧ ∃ p m' l' o' v', Steps bs v.most p0 m v.la out p m' l' o' ∧ v'.most = v.most ∧ p ≤ 8 * bs.length ∧
    ((m' = .fin ∧ InfE lo w' D v' o' ∧ v'.nx = 5 ∧ v'.er = 0 ∧ v'.us = ((fr + (p + 7) / 8 : Nat) : Int) ∧ v'.at_ = v.at_) ∨
     (∃ er p1 m1 l1 o1, er ≠ 0 ∧ er ≠ 2 ∧ ItemR bs v.most p m' l' o' er p1 m1 l1 o1 ∧ InfE lo w' D v' o' ∧ v'.nx = nxOf m' ∧ m' ≠ .fin ∧ v'.er = er ∧ v'.us = v.us ∧ v'.at_ = ((fr + p / 8 : Nat) : Int)) ∨
     (∃ p1 m1 l1 o1 S', ItemR bs v.most p m' l' o' 2 p1 m1 l1 o1 ∧ Inf0 lo w' D v' m' o' (bs.drop (p / 8)) S' ∧ v'.la = l' ∧ v'.us = v.us ∧ v'.at_ = v.at_ ∧ v'.fr = ((fr + p / 8 : Nat) : Int) ∧ v'.sp = ((p % 8 : Nat) : Int)))
def rdAt (R:Nat)(w:World):Nat:=(intOf ((w.cell? ⟨R,1,none⟩).getD (.int .i64 0))).toNat
theorem rdAt_is {w:World}{R:Nat}{ao:Option Addr}{cap:Nat}{bs:List Int}{p:Nat}(h:Rdr w R ao cap bs p):rdAt R w=p:=by
 have c1:w.cell? ⟨R,1,none⟩=some (.int .i64 p):=by simpa using obj_cell h.1 1
 unfold rdAt
 rw [c1];simp [intOf]
theorem readItems_any {lo:Nat}{w:World}{D:Nat}{v:IV}{m:Md}{out bs:List Int}{S:Nat→Prop}(h:Inf0 lo w D v m out bs S)(hlo:lo≤w.heap.size)(hbl:bs.length≤1000000)(p0 fr:Nat)(hfr:v.fr=(fr:Int))(hfl:fr≤1000000000000)(hsp:v.sp=(p0:Int))(hp0:p0≤7)(hp8:p0≤8*bs.length)(hm:m.ok)(hal:Al m p0)
  (hB:∀ p m' l' o',Steps bs v.most p0 m v.la out p m' l' o'→o'.length≤900000):
  Calls Tryz.prog 57 #[.pointer (some ⟨D,0,none⟩)] w fun e w'=>e = .returned (.tuple #[])∧ItemsW lo w D v m out bs p0 fr w':=by
 obtain ⟨ra,rc,hrs⟩:=own_shape h.rest.own
 have c3:=h.obj.c3
 have c5:=h.obj.c5
 rw [hrs] at c3
 rw [hsp] at c5
 have hrd:Reads w ra bs:=own_reads (by have:=h.rest.own;rw [hrs] at this;exact this) rfl
 have HNR:=Hd (newr_any ra rc bs w hrd (by omega) h.allr)
 have H:=Hd h;have HB:=Hd hB;have HM:=Hd hm;have HAl:=Hd hal;have HFr:=Hd hfr;have HSp:=Hd hsp
 clear h hrs hrd hB hm hal hfr hsp
 go_enter Tryz.func57,Tryz.ntmps57
 go_wp2_with fail
 refine HNR.out.mono ?_
 rintro e w1 ⟨R,ao,cap,rfl,hr1,hRw,haw,hk1⟩
 have HT:=Hd (take_yes w1 R ao cap bs 0 p0 hr1 (by omega) (by omega))
 rw [Nat.zero_add] at HT
 have HR1:=Hd hr1;have HK1:=Hd hk1;have HAw:=Hd haw
 have c5':=(H.out.obj.kept hk1 (fun e=>e)).c5
 rw [HSp.out] at c5'
 clear hr1 hk1 haw c3 c5 HNR
 go_wp2_with fail
 refine HT.out.mono ?_
 rintro e w2 ⟨rfl,hr2,hk2⟩
 obtain ⟨S1,hI1⟩:=H.out.with hlo HK1.out HR1.out hRw HAw.out
 have hlo1:lo≤w1.heap.size:=by have:=HK1.out.size;omega
 have hI2:=hI1.moved hlo1 hk2 (fun _ e=>e) hr2
 have HI2:=Hd hI2
 have HK2:Hid (Kept (LoB lo) w w2):=Hd ((HK1.out.mono (fun _ _ e=>e.elim)).trans (hk2.mono (fun k _ e=>by unfold OneB at e;subst e;exact hI1.lowR)))
 clear hI1 hI2 hr2 hk2 c5' HT
 go_wp2_with fail
 go_loopw [3,4] (fun _a _b wr=>∃ p m' o' v' S',Hid (InfS lo wr D v' m' o' bs S' R ao cap p)∧Hid (Steps bs v.most p0 m v.la out p m' v'.la o')∧Hid (v'.most=v.most∧v'.fr=v.fr∧v'.us=v.us∧v'.at_=v.at_)∧Hid (Kept (LoB lo) w wr)) (fun _ _ wr=>8*bs.length - rdAt R wr)
 case atStart=>exact ⟨p0,m,out,v,S1,HI2,Hd .refl,Hd ⟨rfl,rfl,rfl,rfl⟩,HK2⟩
 case round=>
  clear HI2 HK2
  obtain ⟨p,m',o',v',S',HI,HSt,HV,HK⟩:=hrel
  have hplen:=HI.out.rd.2.2.2.1
  have hlor:lo≤wr.heap.size:=by have:=HK.out.size;omega
  have c4:=HI.out.obj.c4
  rw [HV.out.2.1,HFr.out] at c4
  have c6:=HI.out.obj.c6
  rw [HI.out.nx] at c6
  by_cases hfin:m' = .fin
  ·subst hfin
   have c6:wr.cell? ⟨D,6,none⟩=some (.int .i64 5):=c6
   have c13:=HI.out.obj.c13
   have f13:=HI.out.obj.free 13
   have HAt:=Hd (fun W (hk:Kept NoB wr W)=>at_same W R ao cap bs p (HI.out.rd.keptNo hk))
   obtain ⟨K,hK⟩:∃ K,K=(p+7) / 8:=⟨_,rfl⟩
   have hk1:((p:Int)+7) / 8=(K:Int):=by omega
   have hkb:K≤1000001:=by omega
   have HKK:=Hd hK
   clear hK
   go_upto_region 10 with fail
   have hk0:=Kept.refl NoB wr
   have hfk:(fr:Int)+(K:Int)=((fr+K:Nat):Int):=by omega
   have hfkb:fr+K≤2000000000000:=by omega
   obtain ⟨F,hF⟩:∃ F,F=fr+K:=⟨_,rfl⟩
   rw [← hF] at hfk hfkb
   have HF:=Hd hF
   have hN:IntKind.i64.wrap ((fr:Int)+IntKind.i64.wrap ((IntKind.i64.wrap ((p:Int)+7)).tdiv 8))=(F:Int):=by
    have a1:IntKind.i64.wrap ((p:Int)+7)=(p:Int)+7:=IntWalk.i64_in _ (by omega)
    have a2:((p:Int)+7).tdiv 8=(K:Int):=by rw [Int.tdiv_eq_ediv_of_nonneg (by omega)];exact hk1
    have a3:IntKind.i64.wrap (K:Int)=(K:Int):=IntWalk.i64_in _ (by omega)
    rw [a1,a2,a3,hfk]
    exact IntWalk.i64_in _ (by omega)
   obtain ⟨w5,hw5⟩:∃ w5,w5=(wr.setCell ⟨D,13,none⟩ (.int .i64 (F:Int))).drew:=⟨_,rfl⟩
   have ho5:InfO w5 D { v' with us:=(F:Int) }:=by rw [hw5];exact HI.out.obj.setUs (F:Int)
   have hk5:Kept (OneB D) wr w5:=by rw [hw5];exact Kept.drew (Kept.setCell (S:=OneB D) (p:=⟨D,13,none⟩) (Kept.refl _ wr) (.inl rfl) _)
   have c3:=ho5.c3
   have f3:=ho5.free 3
   simp only at c3
   have HO6:=Hd (ho5.setRs (.slice none 0 0))
   have HK6:=Hd (Kept.setCell (p:=⟨D,3,none⟩) hk5 (.inl rfl) (.slice none 0 0))
   have HW5:=Hd hw5
   clear hF hk1 ho5 hk5 hw5
   go_region_law (first
    | (go_simp;go_at_call 97;(with_reducible refine (HAt.out _ (Kept.drew hk0)).mono ?_);rintro e wn ⟨rfl,rfl⟩))
   all_goals
    try rw [hN]
    rw [← HW5.out]
    go_wp2
    refine bodyPost_end (results_none rfl _ _ _) rfl ?_
    refine ⟨rfl,HK.out.trans (HK6.out.mono (fun k _ e=>by unfold OneB at e;subst e;exact HI.out.low)),p,.fin,v'.la,o',{ v' with us:=(F:Int),rs := .slice none 0 0 },HSt.out,HV.out.1,hplen,.inl ⟨rfl,HI.out.drop.fin.turn HK6.out HO6.out rfl rfl,HI.out.nx,HI.out.er,?_,HV.out.2.2.2⟩⟩
    show (F:Int)=_
    rw [HF.out,HKK.out]
  ·have hne5:∃ z:Int,nxOf m'=z∧(z != 5)=true:=⟨nxOf m',rfl,by cases m' <;> first | rfl | exact absurd rfl hfin⟩
   obtain ⟨z,hz,hz5⟩:=hne5
   rw [hz] at c6
   have hokm:=(HSt.out.ok HM.out).1
   have halm:=HSt.out.al HAl.out
   have hsmo:=HB.out _ _ _ _ HSt.out
   have HAt:=Hd (at_same wr R ao cap bs p HI.out.rd)
   have HRI:=Hd (readItem_any HI.out hlor hfin halm hsmo hbl)
   have HFin:=Hd hfin;have HZ:=Hd hz
   clear hz hokm halm hsmo hfin
   go_wp2_with fail
   refine HAt.out.mono ?_
   rintro e w3 ⟨rfl,rfl⟩
   go_wp2_with fail
   refine HRI.out.mono ?_
   rintro e w3 ⟨er,rfl,hk3,v3,m3,o3,S3,p3,hI3,r1,r2,r3,r4,r5⟩
   have HI3:=Hd hI3;have HR5:=Hd r5
   have HV3:Hid (v3.most=v.most∧v3.fr=v.fr∧v3.us=v.us∧v3.at_=v.at_):=Hd ⟨r4.1.trans HV.out.1,r2.trans HV.out.2.1,r4.2.1.trans HV.out.2.2.1,r4.2.2.trans HV.out.2.2.2⟩
   have HK3:=Hd (HK.out.trans hk3)
   clear hI3 r1 r2 r3 r4 r5 hk3 HRI HAt c6 c4
   by_cases h0:er=0
   ·subst h0
    have h5:=HR5.out
    rw [if_pos rfl] at h5
    have hm:v'.most=v.most:=HV.out.1
    rw [hm] at h5
    go_wp2
    go_roundw
    case rel=>exact ⟨p3,m3,o3,v3,S3,HI3,Hd (HSt.out.trans h5.1),HV3,HK3⟩
    case measure=>
     rw [rdAt_is HI3.out.rd,rdAt_is HI.out.rd]
     have:=HI3.out.rd.2.2.2.1
     omega
   ·by_cases h2:er=2
    ·subst h2
     have h5:=HR5.out
     rw [if_neg (by decide)] at h5
     obtain ⟨⟨p1,m1,l1,o1,hit⟩,e1,e2,e3⟩:=h5
     have e3:=e3 rfl
     subst e1 e2
     have hlo3:lo≤w3.heap.size:=by have:=HK3.out.size;omega
     have HKp:=Hd (keep_any HI3.out.drop hlo3 p hplen hbl fr (HV3.out.2.1.trans HFr.out) hfl)
     have HIt:=Hd hit;have HE3:=Hd e3
     clear hit e3
     go_wp2_with fail
     refine HKp.out.mono ?_
     rintro e w4 ⟨rfl,hk4,rs',S4,hI4⟩
     have HI4:=Hd hI4;have HK4:=Hd (HK3.out.trans hk4)
     clear hI4 hk4 HKp
     go_wp2
     refine bodyPost_ret (results_none rfl _ _ _) rfl ?_
     refine ⟨rfl,HK4.out,p,m3,v'.la,o3,{ v3 with rs:=rs',fr:=((fr+p / 8:Nat):Int),sp:=((p % 8:Nat):Int) },HSt.out,HV3.out.1,hplen,.inr (.inr ⟨p1,m1,l1,o1,S4,?_,HI4.out,HE3.out,HV3.out.2.2.1,HV3.out.2.2.2,rfl,rfl⟩)⟩
     have:=HIt.out
     rw [HV.out.1] at this
     exact this
    ·have h5:=HR5.out
     rw [if_neg h0] at h5
     obtain ⟨⟨p1,m1,l1,o1,hit⟩,e1,e2,e3⟩:=h5
     have HIt:=Hd hit
     clear hit e3
     have g2:((er:Int) == 2)=false:=by simpa using h2
     have g0:(er != 0)=true:=by simpa using h0
     obtain ⟨K,hK⟩:∃ K,K=p / 8:=⟨_,rfl⟩
     have hkk:(p:Int) / 8=(K:Int):=by omega
     have hkb:K≤1000001:=by omega
     have hfk:(fr:Int)+(K:Int)=((fr+K:Nat):Int):=by omega
     have hfkb:fr+K≤2000000000000:=by omega
     obtain ⟨F,hF⟩:∃ F,F=fr+K:=⟨_,rfl⟩
     rw [← hF] at hfk hfkb
     have HF:=Hd hF;have HKK:=Hd hK
     clear hF hK
     have ho3:=HI3.out.obj
     have c4:=ho3.c4
     rw [HV3.out.2.1,HFr.out] at c4
     have c15:=ho3.c15
     have f15:=ho3.free 15
     have ho4:=ho3.setEr er
     have c14:=ho4.c14
     have f14:=ho4.free 14
     have ho5:=ho4.setAt (F:Int)
     have c3:=ho5.c3
     have f3:=ho5.free 3
     have ho6:=ho5.setRs (.slice none 0 0)
     simp only at c14 c3
     have HO6:=Hd ho6
     clear ho3 ho4 ho5 ho6
     go_wp2
     refine bodyPost_ret (results_none rfl _ _ _) rfl ?_
     have hk6:Kept (OneB D) w3 (((w3.setCell ⟨D,15,none⟩ (.int .i64 er)).setCell ⟨D,14,none⟩ (.int .i64 (F:Int))).setCell ⟨D,3,none⟩ (.slice none 0 0)):=
      Kept.setCell (p:=⟨D,3,none⟩) (Kept.setCell (p:=⟨D,14,none⟩) (Kept.setCell (p:=⟨D,15,none⟩) (Kept.refl (OneB D) w3) (.inl rfl) _) (.inl rfl) _) (.inl rfl) _
     have hIE:=HI3.out.drop.fin.turn hk6 HO6.out rfl rfl
     have hit:=HIt.out
     rw [HV.out.1] at hit
     refine ⟨rfl,HK3.out.trans (hk6.mono (fun k _ e=>by unfold OneB at e;subst e;exact HI3.out.low)),p,m',v'.la,o',{ v3 with er:=er,at_:=(F:Int),rs := .slice none 0 0 },HSt.out,HV3.out.1,hplen,.inr (.inl ⟨er,p1,m1,l1,o1,h0,h2,hit,?_,?_,HFin.out,rfl,HV3.out.2.2.1,?_⟩)⟩
     ·rw [e1] at hIE;exact hIE
     ·rw [← e2];exact HI3.out.nx
     ·show (F:Int)=_;rw [HF.out,HKK.out]
theorem results_tmp4 {fn:Func}{t u v x:Tmp}(h:fn.results=#[.tmp t,.tmp u,.tmp v,.tmp x])(tmps:Array Value)(P:Program)(w:World):
  (results fn tmps).run P w = .ok (.tuple #[tmps.getD t undef,tmps.getD u undef,tmps.getD v undef,tmps.getD x undef]) w:=by
 simp [results,h]
theorem newsink_any (w:World)(z:Int)(m:Nat)(hm:(m:Int)=if z < 0 then 0 else z)(hml:m≤9223372036854775807):Calls Tryz.prog 55 #[.int .i64 z] w fun e w'=>∃ K,e = .returned (.pointer (some ⟨K,0,none⟩))∧w'.heap[K]?=some (.cells #[.slice none 0 0,.int .i64 m] 106 (0,0))∧Kept NoB w w':=by
 have e1:(if 0 < z then z else 0)=(m:Int):=by omega
 have e2:(if z < 0 then 0 else z)=(m:Int):=by omega
 have HM:=Hd hm
 clear hm
 go_enter Tryz.func55,Tryz.ntmps55
 go_wp2
 all_goals go_ret
 all_goals refine ⟨w.heap.size,rfl,?_,(Kept.refl _ _).alloc _⟩
 all_goals rw [heap_alloc_new]
 all_goals have h:=HM.out
 all_goals first
  | rfl
  | (congr 4;split at h <;> omega)
theorem nilrow {w:World}{lo:Nat}:RowU w lo (.slice none 0 0) []:=⟨World.ownsRow_nil _ _ _ _,fun k hk=>by simp [Value.ownBlock] at hk⟩
def iv0 (most:Nat):IV:=⟨.slice none 0 0,most,.slice none 0 0,.slice none 0 0,0,0,0,false,0,none,none,none,none,0,0,0⟩
theorem infnew_any (w:World)(z:Int)(m:Nat)(hm:(m:Int)=if z < 0 then 0 else z)(hml:m≤9223372036854775807):Calls Tryz.prog 29 #[.int .i64 z] w fun e w'=>∃ D,e = .returned (.pointer (some ⟨D,0,none⟩))∧Inf0 w.heap.size w' D (iv0 m) .block [] [] (fun _=>False)∧Kept NoB w w':=by
 have HN:=Hd (newsink_any w z m hm hml)
 have HL:=Hd hml
 clear hm
 go_enter Tryz.func29,Tryz.ntmps29
 go_wp2_with fail
 refine HN.out.mono ?_
 rintro e w1 ⟨K,rfl,hk,hkk⟩
 have k0:w1.cell? ⟨K,0,none⟩=some (.slice none 0 0):=by rw [obj_cell hk 0];rfl
 have k1:w1.cell? ⟨K,1,none⟩=some (.int .i64 m):=by rw [obj_cell hk 1];rfl
 have HK:=Hd hkk
 clear hk hkk HN
 go_wp2
 go_ret
 refine ⟨w1.heap.size,rfl,⟨heap_alloc_new _ _,HK.out.size,nilrow,nilrow,⟨[],nilrow,⟨⟨[],rfl⟩,.inl rfl⟩,by decide⟩,(fun k hk=>by simp [iv0,Value.ownBlock] at hk),(fun k hk=>hk.elim),(fun k hk=>by simp [iv0,Value.ownBlock] at hk),rfl,rfl,Nat.zero_le _,HL.out,(fun b hb=>by cases hb),(fun b hb=>by cases hb),trivial,.inl rfl⟩,HK.out.alloc _⟩
theorem infclose_over (w:World)(D:Nat)(v:IV)(h:InfO w D v)(ho:v.nx=5∨v.er≠0):
  Calls Tryz.prog 31 #[.pointer (some ⟨D,0,none⟩)] w fun e w'=>e = .returned (.tuple #[])∧Kept NoB w w':=by
 have HO:=over_any w D v h
 rw [decide_eq_true ho] at HO
 have HO:=Hd HO
 clear h ho
 go_enter Tryz.func31,Tryz.ntmps31
 go_wp2_with fail
 refine HO.out.mono ?_
 rintro e w1 ⟨rfl,hk⟩
 have HK:=Hd hk
 clear hk HO
 go_wp2
 refine bodyPost_end (results_none rfl _ _ _) rfl ?_
 exact ⟨rfl,HK.out⟩
theorem infstate_any (w:World)(D:Nat)(v:IV)(h:InfO w D v):
  Calls Tryz.prog 32 #[.pointer (some ⟨D,0,none⟩)] w fun e w'=>e = .returned (.tuple #[.bool (v.nx == 5),.int .i64 v.us,.int .i64 v.at_,.int .i64 v.er])∧Kept NoB w w':=by
 have c6:=h.c6
 have c13:=h.c13
 have c14:=h.c14
 have c15:=h.c15
 clear h
 go_enter Tryz.func32,Tryz.ntmps32
 go_wp2
 go_quiet (fail)
 go_wp2
 refine bodyPost_ret (results_tmp4 rfl _ _ _) rfl ?_
 exact ⟨rfl,(Kept.refl _ _).drewN _⟩
end Go.Proofs.YtfmjfgmbjdhogaaGreatDoor
