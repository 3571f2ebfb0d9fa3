import Derived.Test.YtfmjfgmbjdhogaaGreatDoorMb25
set_option linter.unusedVariables false
set_option linter.unusedSimpArgs false
set_option maxRecDepth 20000
set_option maxHeartbeats 8000000
namespace Go.Proofs.YtfmjfgmbjdhogaaGreatDoor
open Go.RowKit
def TextB (w:World)(C:Nat)(bo:Option Addr)(c:Nat)(b:List Int)(s:Cur)(e:Ending)(w':World):Prop:=
 e = .returned (.string (strOfNums (txtR b s)))∧CurO w' C bo c b (txtS b s)∧Kept (OneB C) w w'
theorem ahead_len (b:List Int)(p:Nat)(hp:p≤b.length):(aheadB b ⟨p,0⟩).length=min (p+1001) b.length - p:=by
 unfold aheadB
 rw [List.length_take,List.length_drop]
 dsimp only
 omega
theorem text_anyG (w:World)(C:Nat)(bo:Option Addr)(c:Nat)(b:List Int)(s:Cur)(hO:CurO w C bo c b s)(hR:CurRow w bo c b)(hRk:∀ W,Kept (OneB C) w W→CurRow W bo c b)(hat:s.at_≤b.length)(hb:b.length≤1000000):
  Calls Tryz.prog 82 #[.pointer (some ⟨C,0,none⟩)] w (TextB w C bo c b s):=by
 obtain ⟨p,e⟩:=s
 have c0:w.cell? ⟨C,0,none⟩=some (.slice bo b.length c):=obj_cell hO 0
 have c1:w.cell? ⟨C,1,none⟩=some (.int .i64 (p:Int)):=obj_cell hO 1
 have c2:w.cell? ⟨C,2,none⟩=some (.int .i64 e):=obj_cell hO 2
 dsimp only at hat
 by_cases he:e≠0
 ·have HT:Hid (txtR b ⟨p,e⟩=[]∧txtS b ⟨p,e⟩=⟨p,e⟩):=Hd ⟨if_pos he,if_pos he⟩
  have he2:(e == 0)=false:=by simpa using he
  have HO:=Hd hO
  clear hO hR hRk
  go_enter Tryz.func82,Tryz.ntmps82
  go_wp2
  go_ret
  exact ⟨by rw [HT.out.1];rfl,by rw [HT.out.2];exact HO.out,Kept.refl _ _⟩
 ·have he0:e=0:=Classical.not_not.1 he
  subst he0
  obtain ⟨h,hh⟩:∃ h,h=min (p+1001) b.length:=⟨_,rfl⟩
  have hal:=ahead_len b p hat
  rw [← hh] at hal
  have hab:aheadB b ⟨p,0⟩=(b.drop p).take (h - p):=by
   rw [← hal]
   unfold aheadB
   dsimp only
   rw [List.length_take,List.take_eq_take_iff]
   omega
  obtain ⟨o1,hsl,hpt⟩:=slg_lh bo b.length c p h b rfl (by omega) (by omega) hR.cap hR.nil
  have hrd:=hpt.reads w hR.rd
  rw [← hab] at hrd
  have hall:AllB (aheadB b ⟨p,0⟩):=by rw [hab];exact (hR.all.drop _).take _
  have HIx:=Hd (fun (W:World) (hk:Kept NoB w W)=>ixb_any o1 (h - p) (c - p) (aheadB b ⟨p,0⟩) W hal.symm hall (hrd.keptNo hk))
  have hmin:(p+1001 < b.length∧h=p+1001)∨(b.length≤p+1001∧h=b.length):=by omega
  obtain ⟨l,hl⟩:∃ l,l=b.length:=⟨_,rfl⟩
  have hcl:l≤c:=by rw [hl];exact hR.cap
  rw [← hl] at c0 hat hb hmin hsl
  obtain ⟨al,hale⟩:∃ al,al=h - p:=⟨_,rfl⟩
  rw [← hale] at HIx hsl
  have hah:p+al=h:=by omega
  obtain ⟨k,hk⟩:∃ k,k=c - p:=⟨_,rfl⟩
  rw [← hk] at HIx hsl
  have HO:=Hd hO;have HR:=Hd hR;have HRk:=Hd hRk;have HL:=Hd hl;have HAl:=Hd hal;have HAle:=Hd hale
  have hal1:al≤1001:=by omega
  clear hO hR hRk hl hal hab hpt hrd hall hh hale hk he
  have hz:(ixZ (aheadB b ⟨p,0⟩) = -1∧Hid (zeroAt (aheadB b ⟨p,0⟩)=al))∨∃ z:Nat,ixZ (aheadB b ⟨p,0⟩)=(z:Int)∧z < al∧Hid (zeroAt (aheadB b ⟨p,0⟩)=z):=by
   have h1:=zeroAt_le (aheadB b ⟨p,0⟩)
   have h2:=HAl.out
   have h3:=HAle.out
   unfold ixZ
   by_cases hc:zeroAt (aheadB b ⟨p,0⟩)=(aheadB b ⟨p,0⟩).length
   ·exact .inl ⟨if_pos hc,Hd (by omega)⟩
   ·exact .inr ⟨_,if_neg hc,by omega,Hd rfl⟩
  generalize ixZ (aheadB b ⟨p,0⟩)=zi at HIx hz
  have hq1:IntKind.i64.wrap ((p:Int)+1000)=((p+1000:Nat):Int):=by rw [IntWalk.i64_in _ (by omega)];omega
  have hhb:h≤1000000:=by omega
  have hpb:p≤1000000:=by omega
  have hhl:h≤l:=by omega
  obtain ⟨p1,hp1⟩:∃ p1,p1=p+1000:=⟨_,rfl⟩
  rw [← hp1] at hq1
  have hq2:IntKind.i64.wrap ((p1:Int)+1)=((p1+1:Nat):Int):=by rw [IntWalk.i64_in _ (by omega)];omega
  obtain ⟨p2,hp2⟩:∃ p2,p2=p1+1:=⟨_,rfl⟩
  rw [← hp2] at hq2
  have HP2:Hid (p2=p+1001):=Hd (by rw [hp2,hp1])
  have HMn:=Hd hmin
  have hp1b:p1≤2000000:=by omega
  have hp2b:p2≤2000000:=by omega
  clear hp1 hp2 hmin
  go_enter Tryz.func82,Tryz.ntmps82
  go_upto_region 3 with fail
  go_cut [3] from 11 to 31 (fun v3 wx=>v3 = .slice o1 al k∧Hid (Kept NoB w wx))
  case first=>
   rcases HMn.out with ⟨hw1,hw2⟩ | ⟨hw1,hw2⟩
   ·have e:h=p2:=by rw [hw2,HP2.out]
    subst e
    have hw3:(h:Int) < (l:Int):=by have:=HP2.out;omega
    clear hw1 hw2
    go_quiet (fail)
    go_wp2
    go_meet
    exact ⟨rfl,Hd ((Kept.refl _ _).drewN _)⟩
   ·subst hw2
    have hw3:¬ (p2:Int) < (h:Int):=by have:=HP2.out;omega
    clear hw1
    go_quiet (fail)
    go_wp2
    go_meet
    exact ⟨rfl,Hd ((Kept.refl _ _).drewN _)⟩
  case rest=>
  obtain ⟨rfl,HKd⟩:=hcut
  have HOd:Hid (CurO wc C bo c b ⟨p,0⟩):=Hd (HKd.out.obj HO.out (fun h=>h))
  have hkd:Kept NoB w wc:=HKd.out
  have hkC:Kept (OneB C) w wc:=hkd.mono (fun _ _ e=>e.elim)
  have HIxd:=Hd (HIx.out _ hkd)
  have HKC:Hid (Kept (OneB C) w wc):=Hd hkC
  clear hkd hkC HIx HO c0 c1 c2 hsl hq1 hq2 HMn HP2 HKd
  go_wp2_with fail
  refine HIxd.out.mono ?_
  rintro e w1 ⟨rfl,rfl⟩
  have HRf:=Hd (fun x e=>refuse_any w1 C bo c b ⟨p,0⟩ x e HOd.out)
  have HTkA:Hid (∀ (W:World) (s:Cur) (n:Nat) (z:Int),z=(n:Int)→CurO W C bo c b s→Kept (OneB C) w W→s.at_≤b.length→n≤1000000→Calls Tryz.prog 80 #[.pointer (some ⟨C,0,none⟩),.int .i64 z] W (TookB W C bo c b s n)):=
   Hd (fun W s n z hz h1 h2 h3 h4=>take_any W C bo c b s n z hz h1 (HRk.out W h2) h3 (by rw [← HL.out];exact hb) h4)
  rcases hz with ⟨rfl,HZ⟩ | ⟨z,rfl,hzl,HZ⟩
  ·-- no nought
   obtain ⟨x,hx⟩:∃ x:Bool,x=decide (1000 < (al:Int)):=⟨_,rfl⟩
   have hs3:∃ ez:Int,refS2 (refS2 ⟨p,0⟩ x 6) true 2=⟨p,ez⟩∧(ez == 0)=false∧ez≠0∧Hid (ez=if 1000 < al then 6 else 2):=by
    cases x with
    | true=>exact ⟨6,rfl,rfl,by decide,Hd (by rw [if_pos (by have h:=hx;simp at h;omega)])⟩
    | false=>exact ⟨2,rfl,rfl,by decide,Hd (by rw [if_neg (by have h:=hx;simp at h;omega)])⟩
   obtain ⟨ez,hs3,hez,hez0,HEz⟩:=hs3
   have hx2:decide (1000 < (al:Int))=x:=hx.symm
   have HS3:=Hd hs3;have HEz0:=Hd hez0
   clear hx hs3 hez0
   go_wp2_with fail
   refine (HRf.out x 6).mono ?_
   rintro e w2 ⟨rfl,h2,k2⟩
   have H2:=Hd (refuse_any w2 C bo c b _ true 2 h2)
   have K2:=Hd (HKC.out.trans k2)
   clear h2 k2
   go_wp2_with fail
   refine H2.out.mono ?_
   rintro e w3 ⟨rfl,h3,k3⟩
   rw [HS3.out] at h3
   have HTk:=Hd (HTkA.out w3 ⟨p,ez⟩ 0 0 rfl h3 (K2.out.trans k3) (by show p≤_;rw [← HL.out];exact hat) (by decide))
   have K3:=Hd (K2.out.trans k3)
   clear h3 k3 H2
   go_wp2_with fail
   refine HTk.out.mono ?_
   rintro e w4 ⟨o,m,kk,rfl,HO4,HK4,HM,HRd,hmk,hkc,HN⟩
   have K4:=Hd (K3.out.trans HK4.out)
   have hTB:takeB b ⟨p,ez⟩ 0=[]:=takeB_e HEz0.out
   have hTS:takeS b ⟨p,ez⟩ 0=⟨p,ez⟩:=takeS_e HEz0.out
   have HM:Hid (m=0):=Hd (by rw [HM.out,hTB];rfl)
   have hr4:=HRd.out w4 (HRk.out w4 K4.out)
   rw [hTB] at hr4
   have hcv:(convert 22 9 (.slice o m kk)).run Tryz.prog w4 = .ok (.string (strOfNums [])) w4:=conv_reads hr4 HM.out HN.out
   have ho4:=HO4.out
   rw [hTS] at ho4
   have c2:w4.cell? ⟨C,2,none⟩=some (.int .i64 ez):=obj_cell ho4 2
   have HO4:=Hd ho4
   clear HRd hTB hTS hr4 ho4 HTk
   go_wp2
   go_ret
   have hT:txtR b ⟨p,0⟩=[]∧txtS b ⟨p,0⟩=⟨p,ez⟩:=by
    have h1:zeroAt (aheadB b ⟨p,0⟩)=(aheadB b ⟨p,0⟩).length:=by rw [HZ.out,HAl.out,HAle.out]
    have h2:(aheadB b ⟨p,0⟩).length=al:=by rw [HAl.out,HAle.out]
    unfold txtR txtS
    rw [if_neg (show ¬ (Cur.mk p 0).e≠0 from fun k=>k rfl),if_neg (show ¬ (Cur.mk p 0).e≠0 from fun k=>k rfl),if_pos h1,if_pos h1,h2,HEz.out]
    refine ⟨rfl,?_⟩
    by_cases hh:1000 < al
    ·rw [if_pos hh,if_pos hh]
    ·rw [if_neg hh,if_neg hh]
   exact ⟨by rw [hT.1];rfl,by rw [hT.2];exact HO4.out,K4.out⟩
  ·by_cases hz0:z=0
   ·subst hz0
    go_wp2_with fail
    refine (HRf.out true 6).mono ?_
    rintro e w2 ⟨rfl,h2,k2⟩
    have H2:=Hd (refuse_any w2 C bo c b _ false 2 h2)
    have K2:=Hd (HKC.out.trans k2)
    clear h2 k2
    go_wp2_with fail
    refine H2.out.mono ?_
    rintro e w3 ⟨rfl,h3,k3⟩
    have h3:CurO w3 C bo c b ⟨p,6⟩:=h3
    have HTk:=Hd (HTkA.out w3 ⟨p,6⟩ 1 1 rfl h3 (K2.out.trans k3) (by show p≤_;rw [← HL.out];exact hat) (by decide))
    have K3:=Hd (K2.out.trans k3)
    clear h3 k3 H2
    go_wp2_with fail
    refine HTk.out.mono ?_
    rintro e w4 ⟨o,m,kk,rfl,HO4,HK4,HM,HRd,hmk,hkc,HN⟩
    have K4:=Hd (K3.out.trans HK4.out)
    have hTB:takeB b ⟨p,6⟩ 1=[]:=takeB_e (by show (6:Int)≠0;decide)
    have hTS:takeS b ⟨p,6⟩ 1=⟨p,6⟩:=takeS_e (by show (6:Int)≠0;decide)
    have HM:Hid (m=0):=Hd (by rw [HM.out,hTB];rfl)
    have hr4:=HRd.out w4 (HRk.out w4 K4.out)
    rw [hTB] at hr4
    have hcv:(convert 22 9 (.slice o m kk)).run Tryz.prog w4 = .ok (.string (strOfNums [])) w4:=conv_reads hr4 HM.out HN.out
    have ho4:=HO4.out
    rw [hTS] at ho4
    have c2:w4.cell? ⟨C,2,none⟩=some (.int .i64 6):=obj_cell ho4 2
    have HO4:=Hd ho4
    clear HRd hTB hTS hr4 ho4 HTk
    go_wp2
    go_ret
    have hT:txtR b ⟨p,0⟩=[]∧txtS b ⟨p,0⟩=⟨p,6⟩:=by
     have h1:¬ zeroAt (aheadB b ⟨p,0⟩)=(aheadB b ⟨p,0⟩).length:=by rw [HZ.out,HAl.out];have:=HAle.out;omega
     unfold txtR txtS
     rw [if_neg (show ¬ (Cur.mk p 0).e≠0 from fun k=>k rfl),if_neg (show ¬ (Cur.mk p 0).e≠0 from fun k=>k rfl),if_neg h1,if_neg h1,HZ.out,if_pos rfl]
     exact ⟨rfl,rfl⟩
    exact ⟨by rw [hT.1];rfl,by rw [hT.2];exact HO4.out,K4.out⟩
   ·have hz1:((z:Int) == 0)=false:=by simpa using hz0
    go_wp2_with fail
    refine (HRf.out false 6).mono ?_
    rintro e w2 ⟨rfl,h2,k2⟩
    have h2:CurO w2 C bo c b ⟨p,0⟩:=h2
    have H2:=Hd (refuse_any w2 C bo c b _ false 2 h2)
    have K2:=Hd (HKC.out.trans k2)
    clear h2 k2
    go_wp2_with fail
    refine H2.out.mono ?_
    rintro e w3 ⟨rfl,h3,k3⟩
    have h3:CurO w3 C bo c b ⟨p,0⟩:=h3
    have HTk:=Hd (HTkA.out w3 ⟨p,0⟩ (z+1) ((z:Int)+1) (by push_cast;rfl) h3 (K2.out.trans k3) (by show p≤_;rw [← HL.out];exact hat) (by omega))
    have K3:=Hd (K2.out.trans k3)
    clear h3 k3 H2
    have hzb:z≤1001:=by omega
    go_wp2_with fail
    refine HTk.out.mono ?_
    rintro e w4 ⟨o,m,kk,rfl,HO4,HK4,HM,HRd,hmk,hkc,HN⟩
    have K4:=Hd (K3.out.trans HK4.out)
    have hfit:¬ z+1 > b.length - p:=by have:=HL.out;have:=HAle.out;have:=HAl.out;omega
    have hTB:takeB b ⟨p,0⟩ (z+1)=(b.drop p).take (z+1):=by unfold takeB;rw [if_neg (show ¬ (Cur.mk p 0).e≠0 from fun k=>k rfl),if_neg hfit]
    have hTS:takeS b ⟨p,0⟩ (z+1)=⟨p+(z+1),0⟩:=by unfold takeS;rw [if_neg (show ¬ (Cur.mk p 0).e≠0 from fun k=>k rfl),if_neg hfit]
    obtain ⟨T,hT⟩:∃ T,T=(b.drop p).take (z+1):=⟨_,rfl⟩
    rw [← hT] at hTB
    have hTl:T.length=z+1:=by rw [hT,List.length_take,List.length_drop];omega
    have hr4:=HRd.out w4 (HRk.out w4 K4.out)
    rw [hTB] at hr4
    have HM:Hid (m=T.length):=Hd (by rw [HM.out,hTB])
    have hcv:(convert 22 9 (.slice o m kk)).run Tryz.prog w4 = .ok (.string (strOfNums T)) w4:=conv_reads hr4 HM.out HN.out
    have hsz:(strOfNums T).size=z+1:=by rw [strOfNums_size,hTl]
    have hex:(strOfNums T).extract 0 z=strOfNums (T.take z):=by
     have:=str_extract3 T 0 z
     simpa using this
    have hTt:T.take z=txtR b ⟨p,0⟩∧txtS b ⟨p,0⟩=⟨p+(z+1),0⟩:=by
     have h1:¬ zeroAt (aheadB b ⟨p,0⟩)=(aheadB b ⟨p,0⟩).length:=by rw [HZ.out,HAl.out];have:=HAle.out;omega
     unfold txtR txtS
     rw [if_neg (show ¬ (Cur.mk p 0).e≠0 from fun k=>k rfl),if_neg (show ¬ (Cur.mk p 0).e≠0 from fun k=>k rfl),if_neg h1,if_neg h1,HZ.out,if_neg hz0]
     refine ⟨?_,rfl⟩
     rw [hT,List.take_take]
     unfold aheadB
     rw [List.take_take]
     congr 1
     omega
    have ho4:=HO4.out
    rw [hTS] at ho4
    have c2:w4.cell? ⟨C,2,none⟩=some (.int .i64 0):=obj_cell ho4 2
    have HO4:=Hd ho4
    obtain ⟨S,hS⟩:∃ S,S=strOfNums T:=⟨_,rfl⟩
    rw [← hS] at hcv hsz hex
    have HEx:=Hd hex;have HTt:=Hd hTt
    clear HRd hTB hTS hr4 ho4 HTk hS hT hTl hex hTt
    go_wp2
    go_ret
    exact ⟨by rw [← HTt.out.1,← HEx.out];rfl,by rw [HTt.out.2];exact HO4.out,K4.out⟩
theorem infoGz:(Tryz.prog.info? 42).map (·.size)=some 9:=by kernel_rfl
theorem by_lit {w0 w:World}(hk:Kept NoB w0 w)(L:List UInt8)(cs:Array Value)(hc:cs.toList=bc L)(n:Nat)(hn:n=L.length)(hm:n≤1000000):BySt w0 (w.alloc (.cells cs 5)) (some ⟨w.heap.size,0,none⟩) n n L:=by
 have hs:cs.size=n:=by rw [← Array.length_toList,hc,hn];simp [bc]
 refine ⟨hn,?_,hk.alloc _,fun k e=>by have:=hk.size;simp [Value.ownBlock] at e;omega⟩
 refine ⟨by rw [hn];simp [bc],.inr ⟨w.heap.size,n,cs,rfl,Nat.zero_le _,heap_alloc_new _ _,Nat.le_refl _,by unfold maxLen;omega,by omega,?_⟩⟩
 rw [hc,List.take_of_length_le]
 rw [hn];simp [bc]
theorem wpList_by_rowK {w:World}{ops:Array Oper}{rest:List Oper}{o:Oper}{act:Act}{Q:Exit→Act→World→Prop}(hgd:o.guard=none)(s x:Operand)
  (ho:o.op = .call { callee := .builtin .append,args:=#[s,x],argTypes:=#[22,22] })
  {w0:World} {a:Option Addr} {l c:Nat} {L:List UInt8} (hS:BySt w0 w a l c L) (hs:act.eval s = .slice a l c) (ad:Addr) (cx m:Nat) (M:List UInt8) (hm:m=M.length) (hx:act.eval x = .slice (some ad) m cx) (hr:Reads w (some ad) (nb M)) (hn:l+m≤100000000)
  (h:∀ a2 c2 w',BySt w0 w' a2 (l+m) c2 (L++M)→Kept (OwnB (.slice a l c)) w w'→wpList Tryz.prog ops Q rest (act.put o.dst (.slice a2 (l+m) c2)) w'):wpList Tryz.prog ops Q (o :: rest) act w:=by
 obtain ⟨i0,hi,hz0,hz1,hz2⟩:=info_parts info5
 refine wpList_app w hgd s x 22 ho 5 i0 (.int .u8 0) 1 1 Tryz.underlying22 hi hz0 hz1 hz2 rfl (by decide) _ l (bc L) hs hS.own ad m cx (bc M) hx (by simp [bc,hm]) ?_ ?_ (by unfold maxLen;omega) (by omega) ?_
 ·rw [bc_nb];exact reads_news hr
 ·rw [bc_nb];exact news_one _
 intro v' w' h2 h3 h4
 obtain ⟨a2,c2,rfl,hb⟩:=hS.grow h2 hm h3 h4
 exact h _ _ _ hb ((Kept.refl _ w).grown h3 (fun k _ e=>e))
theorem wpList_by_strK {w:World}{ops:Array Oper}{rest:List Oper}{o:Oper}{act:Act}{Q:Exit→Act→World→Prop}(hgd:o.guard=none)(s x:Operand)
  (ho:o.op = .call { callee := .builtin .append,args:=#[s,x],argTypes:=#[22,9] })
  {w0:World} {a:Option Addr} {l c:Nat} {L:List UInt8} (hS:BySt w0 w a l c L) (hs:act.eval s = .slice a l c) (X:ByteArray) (M:List UInt8) (hX:X=strB M) (m:Nat) (hm:m=M.length) (hx:act.eval x = .string X) (h0:M≠[]) (hn:l+m≤100000000)
  (h:∀ a2 c2 w',BySt w0 w' a2 (l+m) c2 (L++M)→Kept (OwnB (.slice a l c)) w w'→wpList Tryz.prog ops Q rest (act.put o.dst (.slice a2 (l+m) c2)) w'):wpList Tryz.prog ops Q (o :: rest) act w:=by
 subst hX hm
 have hsz:=strB_size M
 have h00:0 < M.length:=by cases M with | nil=>exact absurd rfl h0 | cons _ _=>simp
 refine wpList_app_str hgd s x 22 9 ho Tryz.underlying22 Tryz.underlying9 _ l (bc L) hs hS.own (strB M) hx (by omega) (by omega) ?_
 intro v' w' h2 h3 h4
 rw [byteCells_strB,hsz] at h2
 obtain ⟨a2,c2,rfl,hb⟩:=hS.grow h2 rfl h3 h4
 rw [hsz] at *
 exact h _ _ _ hb ((Kept.refl _ w).grown h3 (fun k _ e=>e))
theorem BySt.keepT {w0 w w':World}{a:Option Addr}{l c H:Nat}{L:List UInt8}{cs:Array Value}{t:TypeId}(h:BySt w0 w a l c L)(hk:Kept (OwnB (.slice a l c)) w w')(hH:w.heap[H]?=some (.cells cs t (0,0)))(ht:t≠5):w'.heap[H]?=some (.cells cs t (0,0)):=
 hk.obj hH (fun e=>row_ne h.own hH ht H e rfl)
def txts (g:GzP)(i:Nat):List UInt8:=if i=0 then [] else if i=1 then txtB g.name else txtB g.name++txtB g.comm
theorem gzhead_yes (w : World) (a : Option Addr) (c : Nat) (g : GzP) (h : g.Ok) (hr : Reads w a (nb g.extra)) (hc : g.extra.length ≤ c) (h0 : a = none → c = 0) :
    Calls Tryz.prog 41 #[.agg (gzV a c g)] w fun e w' => ∃ a2 m c2, e = .returned (.tuple #[.slice a2 m c2, .bool true]) ∧ BySt w w' a2 m c2 (headG g) := by
  have HG := Hd h; have HR := Hd hr; have H0 := Hd h0; have HC := Hd hc
  clear h hr h0 hc
  go_enter Tryz.func41, Tryz.ntmps41
  go_upto_region 1 with fail
  have hob : (w.alloc (.cells (gzV a c g) 42)).heap[w.heap.size]? = some (.cells (gzV a c g) 42 (0, 0)) := heap_alloc_new _ _
  have hk0 : Kept NoB w (w.alloc (.cells (gzV a c g) 42)) := (Kept.refl _ _).alloc _
  obtain ⟨wb, hwb⟩ : ∃ wb, wb = w.alloc (.cells (gzV a c g) 42) := ⟨_, rfl⟩
  rw [← hwb] at hob hk0 ⊢
  have HWb := Hd hwb
  have hX : w.heap.size < wb.heap.size := obj_lt hob
  obtain ⟨X, hXe⟩ : ∃ X, X = w.heap.size := ⟨_, rfl⟩
  rw [← hXe] at hob ⊢
  have HOb := Hd hob; have HK0 := Hd hk0
  clear hwb hXe hob hk0 hX
  have HOk := Hd (fun W => gzok_yes W a c g HG.out)
  have HFl := Hd (fun W => flags_any W a c g)
  go_wp2_with (refine wpList_load_row rfl 42 (.tmp 1) rfl X rfl 42 (gzV a c g) (0, 0) _ HOb.out Tryz.underlying42 rfl infoGz ?_)
  go_wp2_with fail
  refine (HOk.out _).mono ?_
  rintro e w1 ⟨rfl, hk1⟩
  have HOb1 := Hd (hk1.obj HOb.out (fun h => h)); have HK1 : Hid (Kept NoB wb w1) := Hd hk1
  clear hk1
  go_wp2_with (refine wpList_load_row rfl 42 (.tmp 1) rfl X rfl 42 (gzV a c g) (0, 0) _ HOb1.out Tryz.underlying42 rfl infoGz ?_)
  go_wp2_with fail
  refine (HFl.out _).mono ?_
  rintro e w2 ⟨rfl, hk2⟩
  have HOb2 := Hd (hk2.obj HOb1.out (fun h => h)); have HK2 := Hd (HK1.out.trans hk2)
  clear hk2
  have hfb := (flag_bits g).1
  have hS1 : BySt wb (w2.alloc (.cells #[.int .u8 31, .int .u8 139, .int .u8 8, .int .u8 (flagN g : Nat)] 5)) (some ⟨w2.heap.size, 0, none⟩) 4 4 [31, 139, 8, UInt8.ofNat (flagN g)] :=
    by_lit HK2.out _ _ (by have e : (UInt8.ofNat (flagN g)).toNat = flagN g := by (rw [UInt8.toNat_ofNat']; omega)
                           simp [bc, e]) 4 rfl (by decide)
  have hk3 : Kept NoB w2 (w2.alloc (.cells #[.int .u8 31, .int .u8 139, .int .u8 8, .int .u8 (flagN g : Nat)] 5)) := (Kept.refl _ _).alloc _
  have HAn := Hd (appnum_any wb _ _ _ _ _ g.time 4 4 rfl hS1 (by have := HG.out.time; omega) (by decide) (by decide))
  have HOb3 := Hd (hk3.obj HOb2.out (fun h => h))
  have c6 := (obj_cell HOb3.out 6).trans (show (gzV a c g)[6]? = some (.int .i64 g.time) from rfl)
  generalize hfle : flagN g = fl at HAn HOb3 c6
  have HFe := Hd hfle
  clear hS1 hk3 hfb hfle
  go_wp2_with fail
  refine HAn.out.mono ?_
  rintro e w3 ⟨a3, c3, rfl, hS3⟩
  have hob3 : w3.heap[X]? = some (.cells (gzV a c g) 42 (0, 0)) := hS3.kept.obj HOb.out (fun h => h)
  have c7 : w3.cell? ⟨X, 7, none⟩ = some (.int .i64 g.xfl) := obj_cell hob3 7
  have c8 : w3.cell? ⟨X, 8, none⟩ = some (.int .i64 g.os) := obj_cell hob3 8
  have v7 : IntKind.u8.wrap (g.xfl : Int) = ((UInt8.ofNat g.xfl).toNat : Int) := by have := HG.out.xfl; rw [UInt8.toNat_ofNat', IntKind.wrap_u8]; omega
  have v8 : IntKind.u8.wrap (g.os : Int) = ((UInt8.ofNat g.os).toNat : Int) := by have := HG.out.os; rw [UInt8.toNat_ofNat', IntKind.wrap_u8]; omega
  have HS3 := Hd hS3
  clear hS3 hob3 HAn c6
  go_upto_if 27 with (at_builtin; refine wpList_by_row rfl (.tmp 17) (.tmp 24) rfl (HS3.out.on ((Kept.refl _ _).alloc _)) rfl ⟨w3.heap.size, 0, none⟩ 2 2 [UInt8.ofNat g.xfl, UInt8.ofNat g.os] rfl rfl (lit_reads (t := 5) (fr := (0, 0)) (cs := #[.int .u8 ((UInt8.ofNat g.xfl).toNat : Int), .int .u8 ((UInt8.ofNat g.os).toNat : Int)]) _ (heap_alloc_new _ _) rfl) (by omega) ?_; intro a4 c4 w4 hS4; have c1 := (obj_cell (hS4.kept.obj HOb.out (fun h => h)) 1).trans (show (gzV a c g)[1]? = some (.bool g.hasx) from rfl); have c3 := (obj_cell (hS4.kept.obj HOb.out (fun h => h)) 3).trans (show (gzV a c g)[3]? = some (.slice a g.extra.length c) from rfl); have HS4 := Hd hS4; clear hS4 HS3)
  have HS4 : Hid (BySt wb w4 a4 10 c4 (gz1 g)) := Hd (by have := HS4.out; rw [← HFe.out] at this; exact this)
  have HXl : Hid (gzX g = if g.hasx then leB 2 g.extra.length ++ g.extra else []) := Hd rfl
  have HEl := Hd HG.out.extra
  have hel := HG.out.extra
  have HRx : Hid (∀ W, Kept NoB wb W → Reads W a (nb g.extra)) := Hd (fun W hk => HR.out.keptNo (HK0.out.trans hk))
  have HN0 : Hid (a = none → g.extra = []) := Hd (fun e => by have := HC.out; have := H0.out e; exact List.eq_nil_of_length_eq_zero (by omega))
  generalize g.hasx = hx at c1 HXl
  generalize hGXe : gzX g = GX at HXl
  have HGX : Hid (GX = gzX g) := Hd hGXe.symm
  clear hGXe
  go_cut [4] from 27 to 36 (fun v4 wx => ∃ (a5 : Option Addr) (m5 c5 : Nat), v4 = .slice a5 m5 c5 ∧ m5 ≤ 70000 ∧ Hid (BySt wb wx a5 m5 c5 (gz1 g ++ GX)))
  case first =>
    cases hx with
    | false =>
      have hGX : GX = [] := by rw [HXl.out]; rfl
      go_wp2
      go_meet
      exact ⟨a4, 10, c4, rfl, by omega, Hd (by rw [hGX, List.append_nil]; exact HS4.out)⟩
    | true =>
      have HGXl : Hid (GX = leB 2 g.extra.length ++ g.extra) := Hd (by rw [HXl.out]; rfl)
      have HAn2 := Hd (appnum_any wb _ _ _ _ _ g.extra.length 2 2 rfl HS4.out (by omega) (by decide) (by decide))
      obtain ⟨el, hele⟩ : ∃ el, el = g.extra.length := ⟨_, rfl⟩
      rw [← hele] at HAn2 c3 hel HEl HGXl
      have HEe := Hd hele
      clear hele
      go_wp2_with fail
      refine HAn2.out.mono ?_
      rintro e w5 ⟨a5, c5, rfl, hS5⟩
      have c3 := (obj_cell (hS5.kept.obj HOb.out (fun h => h)) 3).trans (show (gzV a c g)[3]? = some (.slice a g.extra.length c) from rfl)
      rw [← HEe.out] at c3
      have HRx5 := Hd (HRx.out w5 hS5.kept)
      have HS5 := Hd hS5
      clear hS5 HAn2
      cases a with
      | none =>
        have hx0 : g.extra = [] := HN0.out rfl
        have hc0 : c = 0 := H0.out rfl
        have hl0 : el = 0 := by rw [HEe.out, hx0]; rfl
        subst hc0 hl0
        go_wp2_with (at_builtin; refine wpList_by_none rfl (.tmp 33) (.tmp 35) rfl HS5.out rfl rfl ?_)
        go_wp2
        go_meet
        exact ⟨a5, _, c5, rfl, by omega, Hd (by rw [HGXl.out, hx0, List.append_nil]; exact HS5.out)⟩
      | some ad =>
        go_wp2_with (at_builtin; refine wpList_by_row rfl (.tmp 33) (.tmp 35) rfl HS5.out rfl ad c el g.extra HEe.out rfl HRx5.out (by omega) ?_; intro a6 c6 w6 hS6; have HS6 := Hd hS6; clear hS6)
        go_wp2
        go_meet
        exact ⟨a6, _, c6, rfl, by omega, Hd (by rw [HGXl.out, ← List.append_assoc]; exact HS6.out)⟩
  case rest =>
  obtain ⟨a5, m5, c5, rfl, hm5, HS5⟩ := hcut
  clear HXl c1 c3 c7 c8 v7 v8 HOb1 HOb2 HOb3 HFe HOk HFl HK1 HK2 hel
  obtain ⟨B5, hB5⟩ : ∃ B5, B5 = gz1 g ++ GX := ⟨_, rfl⟩
  rw [← hB5] at HS5
  have HB5 := Hd hB5
  clear hB5
  have hobc := HS5.out.kept.obj HOb.out (fun h => h)
  have c4 : wc.cell? ⟨X, 4, none⟩ = some (.string (strB g.name)) := obj_cell hobc 4
  have c5 : wc.cell? ⟨X, 5, none⟩ = some (.string (strB g.comm)) := obj_cell hobc 5
  have hnl := HG.out.name
  have hcl := HG.out.comm
  obtain ⟨S1, hS1⟩ : ∃ S1, S1 = strB g.name := ⟨_, rfl⟩
  obtain ⟨S2, hS2⟩ : ∃ S2, S2 = strB g.comm := ⟨_, rfl⟩
  rw [← hS1] at c4
  rw [← hS2] at c5
  have HS1 := Hd hS1; have HS2 := Hd hS2
  obtain ⟨R, hR⟩ : ∃ R, R = wc.heap.size := ⟨_, rfl⟩
  have HR5 := Hd hR
  clear hobc hS1 hS2 hR
  go_wp2_with fail
  go_loopw [4, 6, 43] (fun v4 _ v43 wr => ∃ (i : Nat) (a6 : Option Addr) (m6 c6 : Nat), v4 = .slice a6 m6 c6 ∧ v43 = .int .i64 (i : Int) ∧ i ≤ 2 ∧ m6 ≤ 70000 + 1001 * i ∧ Hid (BySt wb wr a6 m6 c6 (B5 ++ txts g i)) ∧ Hid (wr.heap[R]? = some (.cells #[.string S1, .string S2] 9 (0, 0)))) (fun _ _ v43 _ => 2 - (intOf v43).toNat)
  case atStart => exact ⟨0, a5, m5, _, rfl, rfl, by omega, by omega, Hd (by unfold txts; rw [if_pos rfl, List.append_nil]; exact HS5.out.on ((Kept.refl _ _).alloc _)), Hd (by rw [HR5.out]; exact heap_alloc_new _ _)⟩
  case round =>
    obtain ⟨i, a6, m6, c6, rfl, rfl, hi, hm6, HS6, HRw⟩ := hrel
    by_cases hi2 : i < 2
    · obtain ⟨M, hMd⟩ : ∃ M, M = if i = 0 then g.name else g.comm := ⟨_, rfl⟩
      have hM0 : 0 ∉ M := by rw [hMd]; split; exact HG.out.name0; exact HG.out.comm0
      have hMl : M.length ≤ 1000 := by rw [hMd]; split <;> assumption
      have cM : wr.cell? ⟨R, i, none⟩ = some (.string (strB M)) := by
        rw [obj_cell HRw.out i, hMd]
        rcases (show i = 0 ∨ i = 1 by omega) with rfl | rfl
        · rw [if_pos rfl, ← HS1.out]; rfl
        · rw [if_neg (by decide), ← HS2.out]; rfl
      have HTx : Hid (txts g (i + 1) = txts g i ++ txtB M) := Hd (by
        rw [hMd]
        rcases (show i = 0 ∨ i = 1 by omega) with rfl | rfl <;> simp [txts])
      have hMs := strB_list M
      obtain ⟨S, hS⟩ : ∃ S, S = strB M := ⟨_, rfl⟩
      rw [← hS] at cM hMs
      rw [HR5.out] at cM
      obtain ⟨ml, hml⟩ : ∃ ml, ml = M.length := ⟨_, rfl⟩
      rw [← hml] at hMl
      have HSd := Hd hS; have HMl := Hd hml
      by_cases hMe : M = []
      · have e1 : S.toList.isEmpty = true := by rw [hMs, hMe]; rfl
        have e2 : (S.toList = []) = True := by rw [hMs, hMe]; simp
        clear hMd hM0 hMs hS hml
        go_wp2
        go_roundw
        case rel => exact ⟨i + 1, a6, m6, c6, rfl, by go_num, by omega, by omega, Hd (by rw [HTx.out, hMe]; unfold txtB; simpa using HS6.out), HRw⟩
        case measure => simp [intOf]; omega
      · have e1 : S.toList.isEmpty = false := by rw [hMs]; simpa using hMe
        have e2 : (S.toList = []) = False := by rw [hMs]; simpa using hMe
        have HTb : Hid (txtB M = M ++ [0]) := Hd (by unfold txtB; rw [if_neg (by simpa using hMe)])
        clear hMd hM0 hMs hS hml
        go_wp2_with (at_builtin; first
          | (refine wpList_by_strK rfl (.tmp 49) (.tmp 50) rfl HS6.out rfl S M HSd.out ml HMl.out rfl hMe (by omega) ?_; intro a7 c7 w7 hS7 hk7; have HRw7 := Hd (HS6.out.keepT hk7 HRw.out (by decide)); have HS7 := Hd hS7; clear hS7 hk7)
          | (refine wpList_by_rowK rfl (.tmp 52) (.tmp 53) rfl (HS7.out.on ((Kept.refl _ _).alloc _)) rfl ⟨w7.heap.size, 0, none⟩ 1 1 [0] rfl rfl (lit_reads (t := 5) (fr := (0, 0)) (cs := #[.int .u8 0]) _ (heap_alloc_new _ _) rfl) (by omega) ?_; intro a8 c8 w8 hS8 hk8; have HRw8 := Hd ((HS7.out.on ((Kept.refl _ _).alloc _)).keepT hk8 (((Kept.refl NoB w7).alloc _).obj HRw7.out (fun h => h)) (by decide)); have HS8 := Hd hS8; clear hS8 hk8))
        go_wp2
        go_roundw
        case rel => exact ⟨i + 1, a8, m6 + ml + 1, c8, rfl, by go_num, by omega, by omega, Hd (by rw [HTx.out, HTb.out, ← List.append_assoc, ← List.append_assoc]; exact HS8.out), HRw8⟩
        case measure => simp [intOf]; omega
    · have hi2' : i = 2 := by omega
      subst hi2'
      have hm7 : m6 ≤ 72002 := by omega
      clear hi hm6 HRw
      have HS6 : Hid (BySt wb wr a6 m6 c6 (gz4 g)) := Hd (by
        have := HS6.out
        rw [HB5.out, HGX.out] at this
        unfold gz4
        simpa [txts] using this)
      have hob6 := HS6.out.kept.obj HOb.out (fun h => h)
      have c2 : wr.cell? ⟨X, 2, none⟩ = some (.bool g.sum) := obj_cell hob6 2
      have HHd : Hid (headG g = gz4 g ++ (if g.sum then leB 2 (crc16 (nb (gz4 g))) else [])) := Hd rfl
      have hcap := HS6.out.cap
      have HLs := Hd (lowsum_any wr a6 m6 c6 (nb (gz4 g)) HS6.out.reads (nb_all _) (by rw [nb_len]; exact HS6.out.len) hcap.1 hcap.2.1 hcap.2.2)
      have hcl16 : crc16 (nb (gz4 g)) < 65536 := by unfold crc16; omega
      have HAn3 : Hid (∀ W, Kept NoB wr W → Calls Tryz.prog 42 #[.slice a6 m6 c6, .int .i64 (crc16 (nb (gz4 g)) : Nat), .int .i64 2] W fun e w' => ∃ a2 c2, e = .returned (.slice a2 (m6 + 2) c2) ∧ BySt wb w' a2 (m6 + 2) c2 (gz4 g ++ leB 2 (crc16 (nb (gz4 g))))) :=
        Hd (fun W hk => appnum_any wb W a6 m6 c6 _ _ 2 2 rfl (HS6.out.on hk) (by omega) (by decide) (by omega))
      generalize crc16 (nb (gz4 g)) = cr at *
      have hfin : ∀ (w' : World) (a : Option Addr) (m c : Nat) (L : List UInt8), BySt wb w' a m c L → BySt w w' a m c L := fun _ _ _ _ _ h => ⟨h.len, h.own, HK0.out.trans h.kept, fun k e => Nat.le_trans HK0.out.size (h.fresh k e)⟩
      have HFin := Hd hfin
      clear hob6 hcap hfin hi2
      generalize g.sum = sm at c2 HHd
      cases sm with
      | false =>
        go_wp2
        go_ret2
        exact ⟨a6, m6, c6, rfl, by rw [HHd.out, if_neg (by decide), List.append_nil]; exact HFin.out _ _ _ _ _ HS6.out⟩
      | true =>
        go_wp2_with fail
        refine HLs.out.mono ?_
        rintro e w7 ⟨rfl, hk7⟩
        have HA7 := Hd (HAn3.out w7 hk7)
        clear hk7 HLs HAn3
        go_wp2_with fail
        refine HA7.out.mono ?_
        rintro e w8 ⟨a8, c8, rfl, hS8⟩
        have HS8 := Hd hS8
        clear hS8 HA7
        go_wp2
        go_ret2
        exact ⟨a8, _, c8, rfl, by rw [HHd.out, if_pos (by trivial)]; exact HFin.out _ _ _ _ _ HS8.out⟩
def gz0:Array Value:=#[.bool false,.bool false,.bool false,.slice none 0 0,.string ⟨#[]⟩,.string ⟨#[]⟩,.int .i64 0,.int .i64 0,.int .i64 0]
structure HdI (w W:World)(C H R:Nat)(bo:Option Addr)(c:Nat)(b:List Int)(s:Cur)(hc:Array Value)(xa:Option Addr)(xs:List Int):Prop where
 cur:CurO W C bo c b s
 h:W.heap[H]?=some (.cells hc 42 (0,0))
 r:W.heap[R]?=some (.cells gz0 42 (0,0))
 kept:Kept (OneB C) w W
 lo:w.heap.size≤H∧w.heap.size≤R∧H≠R∧C < w.heap.size
 xr:Reads W xa xs
 xb:∀ q,xa=some q→w.heap.size≤q.block∧q.block≠H∧q.block≠R
theorem HdI.step {w W W2:World}{C H R:Nat}{bo:Option Addr}{c:Nat}{b:List Int}{s s2:Cur}{hc:Array Value}{xa:Option Addr}{xs:List Int}(h:HdI w W C H R bo c b s hc xa xs)(ho:CurO W2 C bo c b s2)(hk:Kept (OneB C) W W2):HdI w W2 C H R bo c b s2 hc xa xs:=by
 obtain ⟨l1,l2,l3,l4⟩:=h.lo
 exact ⟨ho,hk.obj h.h (fun e=>by unfold OneB at e;omega),hk.obj h.r (fun e=>by unfold OneB at e;omega),h.kept.trans hk,h.lo,h.xr.kept hk (fun q hq e=>by have:=h.xb q hq;unfold OneB at e;omega),h.xb⟩
theorem HdI.no {w W W2:World}{C H R:Nat}{bo:Option Addr}{c:Nat}{b:List Int}{s:Cur}{hc:Array Value}{xa:Option Addr}{xs:List Int}(h:HdI w W C H R bo c b s hc xa xs)(hk:Kept NoB W W2):HdI w W2 C H R bo c b s hc xa xs:=
 h.step (hk.obj h.cur (fun e=>e)) (hk.mono (fun _ _ e=>e.elim))
theorem HdI.watch {w W:World}{C H R:Nat}{bo:Option Addr}{c:Nat}{b:List Int}{s:Cur}{hc:Array Value}{xa:Option Addr}{xs:List Int}(h:HdI w W C H R bo c b s hc xa xs)(ya:Option Addr)(ys:List Int)(hr:Reads W ya ys)(hb:∀ q,ya=some q→w.heap.size≤q.block∧q.block≠H∧q.block≠R):HdI w W C H R bo c b s hc ya ys:=
 ⟨h.cur,h.h,h.r,h.kept,h.lo,hr,hb⟩
theorem HdI.set {w W:World}{C H R:Nat}{bo:Option Addr}{c:Nat}{b:List Int}{s:Cur}{hc:Array Value}{xa:Option Addr}{xs:List Int}(h:HdI w W C H R bo c b s hc xa xs)(i:Nat)(v:Value):HdI w (W.setCell ⟨H,i,none⟩ v) C H R bo c b s (hc.setIfInBounds i v) xa xs:=by
 obtain ⟨l1,l2,l3,l4⟩:=h.lo
 have hk:Kept (OneB H) W (W.setCell ⟨H,i,none⟩ v):=Kept.setCell (S:=OneB H) (p:=⟨H,i,none⟩) (Kept.refl _ _) (.inl rfl) v
 exact ⟨hk.obj h.cur (fun e=>by unfold OneB at e;omega),obj_set h.h i v,hk.obj h.r (fun e=>by unfold OneB at e;omega),h.kept.setCell (p:=⟨H,i,none⟩) (.inr l1) v,h.lo,h.xr.kept hk (fun q hq e=>(h.xb q hq).2.1 e),h.xb⟩
theorem HdI.fin {w W:World}{C H R:Nat}{bo:Option Addr}{c:Nat}{b:List Int}{s:Cur}{hc:Array Value}{xa:Option Addr}{xs:List Int}(h:HdI w W C H R bo c b s hc xa xs):
  CurO (W.setRow R hc) C bo c b s∧(W.setRow R hc).heap[R]?=some (.cells hc 42 (0,0))∧Kept (OneB C) w (W.setRow R hc)∧Reads (W.setRow R hc) xa xs:=by
 obtain ⟨l1,l2,l3,l4⟩:=h.lo
 have hk:Kept (OneB R) W (W.setRow R hc):=⟨rfl,rfl,rfl,by simp [World.setRow],fun k _ hs=>setRow_other W R k hc (fun e=>hs e)⟩
 have hk2:Kept (OneB C) w (W.setRow R hc):=⟨h.kept.os,h.kept.tape,h.kept.output,Nat.le_trans h.kept.size hk.size,fun k hk3 hs=>(hk.block k (Nat.lt_of_lt_of_le hk3 h.kept.size) (fun e=>by unfold OneB at e;omega)).trans (h.kept.block k hk3 hs)⟩
 exact ⟨hk.obj h.cur (fun e=>by unfold OneB at e;omega),setRow_heap W R _ hc _ _ h.r,hk2,h.xr.kept hk (fun q hq e=>(h.xb q hq).2.2 e)⟩
theorem i64_andG (a b:Nat)(ha:a < 9223372036854775808)(hb:b < 9223372036854775808):bits .and .i64 (a:Int) (b:Int)=((a &&& b:Nat):Int):=by
 show IntKind.i64.wrap ((BitVec.ofInt 64 (a:Int) &&& BitVec.ofInt 64 (b:Int)).toNat:Int)=_
 have h1:(BitVec.ofInt 64 (a:Int) &&& BitVec.ofInt 64 (b:Int)).toNat=a &&& b:=by
  rw [BitVec.ofInt_natCast,BitVec.ofInt_natCast,BitVec.toNat_and,BitVec.toNat_ofNat,BitVec.toNat_ofNat,Nat.mod_eq_of_lt (show a < 2 ^ 64 by omega),Nat.mod_eq_of_lt (show b < 2 ^ 64 by omega)]
 have h2:a &&& b < 2 ^ 63:=Nat.and_lt_two_pow (n:=63) _ hb
 rw [h1]
 exact IntWalk.i64_in _ (by omega)
theorem and_pos:∀ n,n < 256→(decide (0 < (n &&& 1))=decide (n % 2=1))∧(decide (0 < (n &&& 2))=decide (n / 2 % 2=1))∧(decide (0 < (n &&& 4))=decide (n / 4 % 2=1))∧(decide (0 < (n &&& 8))=decide (n / 8 % 2=1))∧(decide (0 < (n &&& 16))=decide (n / 16 % 2=1)):=by decide +kernel
theorem and_fact (n m:Nat)(hn:n < 256)(hm:m < 256):∃ x:Nat,bits .and .i64 (n:Int) (m:Int)=(x:Int)∧decide (0 < x)=decide (0 < (n &&& m)):=by
 exact ⟨n &&& m,i64_andG n m (by omega) (by omega),rfl⟩
theorem flag_fact (n:Nat)(hn:n < 256):(∃ x:Nat,bits .and .i64 (n:Int) 1=(x:Int)∧decide (0 < x)=decide (n % 2=1))∧(∃ x:Nat,bits .and .i64 (n:Int) 2=(x:Int)∧decide (0 < x)=decide (n / 2 % 2=1))∧
  (∃ x:Nat,bits .and .i64 (n:Int) 4=(x:Int)∧decide (0 < x)=decide (n / 4 % 2=1))∧(∃ x:Nat,bits .and .i64 (n:Int) 8=(x:Int)∧decide (0 < x)=decide (n / 8 % 2=1))∧(∃ x:Nat,bits .and .i64 (n:Int) 16=(x:Int)∧decide (0 < x)=decide (n / 16 % 2=1)):=by
 obtain ⟨a1,a2,a3,a4,a5⟩:=and_pos n hn
 refine ⟨?_,?_,?_,?_,?_⟩
 ·rw [← a1];exact and_fact n 1 hn (by decide)
 ·rw [← a2];exact and_fact n 2 hn (by decide)
 ·rw [← a3];exact and_fact n 4 hn (by decide)
 ·rw [← a4];exact and_fact n 8 hn (by decide)
 ·rw [← a5];exact and_fact n 16 hn (by decide)
structure HdK (w:World)(C H R:Nat)(bo:Option Addr)(c:Nat)(b:List Int):Prop where
 row:∀ W,Kept (OneB C) w W→CurRow W bo c b
 len:b.length≤1000000
theorem HdK.that {w W:World}{C H R:Nat}{bo:Option Addr}{c:Nat}{b:List Int}{s:Cur}{hc:Array Value}{xa:Option Addr}{xs:List Int}(k:HdK w C H R bo c b)(h:HdI w W C H R bo c b s hc xa xs)(hat:s.at_≤b.length)(want e:Int):
  Calls Tryz.prog 79 #[.pointer (some ⟨C,0,none⟩),.int .u8 want,.int .i64 e] W fun e' w'=>e' = .returned (.tuple #[])∧Hid (HdI w w' C H R bo c b (thatS b s want e) hc xa xs):=
 (that_any W C bo c b s want e h.cur (k.row W h.kept) (fun W2 h2=>k.row W2 (h.kept.trans h2)) hat k.len).mono (by rintro e' w' ⟨rfl,h1,h2⟩;exact ⟨rfl,Hd (h.step h1 h2)⟩)
theorem HdK.refuse {w W:World}{C H R:Nat}{bo:Option Addr}{c:Nat}{b:List Int}{s:Cur}{hc:Array Value}{xa:Option Addr}{xs:List Int}(k:HdK w C H R bo c b)(h:HdI w W C H R bo c b s hc xa xs)(x:Bool)(e:Int):
  Calls Tryz.prog 81 #[.pointer (some ⟨C,0,none⟩),.bool x,.int .i64 e] W fun e' w'=>e' = .returned (.tuple #[])∧Hid (HdI w w' C H R bo c b (refS2 s x e) hc xa xs):=
 (refuse_any W C bo c b s x e h.cur).mono (by rintro e' w' ⟨rfl,h1,h2⟩;exact ⟨rfl,Hd (h.step h1 h2)⟩)
theorem HdK.take {w W:World}{C H R:Nat}{bo:Option Addr}{c:Nat}{b:List Int}{s:Cur}{hc:Array Value}{xa:Option Addr}{xs:List Int}(k:HdK w C H R bo c b)(h:HdI w W C H R bo c b s hc xa xs)(hat:s.at_≤b.length)(n:Nat)(z:Int)(hz:z=(n:Int))(hn:n≤1000000):
  Calls Tryz.prog 80 #[.pointer (some ⟨C,0,none⟩),.int .i64 z] W fun e' w'=>∃ (o:Option Addr) (m kk:Nat),e' = .returned (.slice o m kk)∧Hid (HdI w w' C H R bo c b (takeS b s n) hc xa xs)∧Hid (m=(takeB b s n).length)∧Hid (∀ W,Kept (OneB C) w W→Reads W o (takeB b s n))∧m≤kk∧kk≤c∧Hid (o=none→kk=0):=
 (take_any W C bo c b s n z hz h.cur (k.row W h.kept) hat k.len hn).mono (by
  rintro e' w' ⟨o,m,kk,rfl,h1,h2,h3,h4,h5,h6,h7⟩
  exact ⟨o,m,kk,rfl,Hd (h.step h1.out h2.out),h3,Hd (fun W2 hk=>h4.out W2 (k.row W2 hk)),h5,h6,h7⟩)
theorem HdK.text {w W:World}{C H R:Nat}{bo:Option Addr}{c:Nat}{b:List Int}{s:Cur}{hc:Array Value}{xa:Option Addr}{xs:List Int}(k:HdK w C H R bo c b)(h:HdI w W C H R bo c b s hc xa xs)(hat:s.at_≤b.length):
  Calls Tryz.prog 82 #[.pointer (some ⟨C,0,none⟩)] W fun e' w'=>e' = .returned (.string (strOfNums (txtR b s)))∧Hid (HdI w w' C H R bo c b (txtS b s) hc xa xs):=
 (text_anyG W C bo c b s h.cur (k.row W h.kept) (fun W2 h2=>k.row W2 (h.kept.trans h2)) hat k.len).mono (by rintro e' w' ⟨rfl,h1,h2⟩;exact ⟨rfl,Hd (h.step h1 h2)⟩)
theorem txtS_at {b:List Int}{s:Cur}(h:s.at_≤b.length):(txtS b s).at_≤b.length:=by
 have hl:(aheadB b s).length≤b.length - s.at_:=by unfold aheadB;rw [List.length_take,List.length_drop];omega
 have hz:=zeroAt_le (aheadB b s)
 unfold txtS
 split
 ·exact h
 ·split
  ·split <;> exact h
  ·split
   ·exact h
   ·dsimp only;omega
theorem txtR_all {b:List Int}{s:Cur}(h:AllB b):AllB (txtR b s):=by
 unfold txtR
 split
 ·intro x hx;cases hx
 ·split
  ·intro x hx;cases hx
  ·unfold aheadB;exact ((h.drop _).take _).take _
theorem thatS_at {b:List Int}{s:Cur}{x e:Int}(h:s.at_≤b.length):(thatS b s x e).at_≤b.length:=by unfold thatS;rw [refS2_at];exact takeS_at h
end Go.Proofs.YtfmjfgmbjdhogaaGreatDoor
