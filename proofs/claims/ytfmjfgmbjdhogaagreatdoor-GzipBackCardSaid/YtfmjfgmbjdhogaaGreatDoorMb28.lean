import Derived.Test.YtfmjfgmbjdhogaaGreatDoorMb27
import Derived.Deep.CutBlock
set_option linter.unusedVariables false
set_option linter.unusedSimpArgs false
set_option maxRecDepth 20000
set_option maxHeartbeats 8000000
namespace Go.Proofs.YtfmjfgmbjdhogaaGreatDoor
open Go.RowKit
theorem isg_yes (w:World)(ao:Option Addr)(n c:Nat)(b:List Int)(hn:n=b.length)(hr:Reads w ao b)(h2:2≤n)(h0:b.getD 0 0=31)(h1:b.getD 1 0=139):Calls Tryz.prog 21 #[.slice ao n c] w fun e w'=>e = .returned (.bool true)∧w'=w:=by
 obtain ⟨g,o,rfl,_,hc⟩:=hr.at (by omega)
 have c0:=hc 0 (by omega)
 have c1:=hc 1 (by omega)
 rw [h0,Nat.add_zero] at c0
 rw [h1] at c1
 have h2':(2:Int)≤(n:Int):=by omega
 clear hc hr hn
 go_enter Tryz.func21,Tryz.ntmps21
 go_wp2
 go_ret
 exact ⟨rfl,rfl⟩
def leadZ:List Int→Nat
 | []=>0
 | x :: r=>if x=0 then leadZ r+1 else 0
theorem leadZ_drop:∀ (l:List Int) (i:Nat),i < l.length→leadZ (l.drop i)=if l.getD i 0=0 then leadZ (l.drop (i+1))+1 else 0:=by
 intro l i hi
 rw [List.drop_eq_getElem_cons hi,leadZ]
 simp [List.getD,hi]
theorem noughts_anyG (w:World)(ao:Option Addr)(n c:Nat)(b:List Int)(hn:n=b.length)(hr:Reads w ao b)(hl:n≤1000000):Calls Tryz.prog 47 #[.slice ao n c] w fun e w'=>e = .returned (.int .i64 (leadZ b:Nat))∧w'=w:=by
 have HN:=Hd hn;have HR:=Hd hr
 clear hn hr
 go_enter Tryz.func47,Tryz.ntmps47
 go_wp2_with fail
 go_loopw [3,4,7] (fun _ _ v7 wr=>∃ i:Nat,v7 = .int .i64 (i:Int)∧i≤n∧wr=w∧Hid (leadZ b=i+leadZ (b.drop i))) (fun _ _ v7 _=>n - (intOf v7).toNat)
 case atStart=>exact ⟨0,rfl,Nat.zero_le _,rfl,Hd (by simp)⟩
 case round=>
  obtain ⟨i,rfl,hi,rfl,HZ⟩:=hrel
  by_cases hin:i < n
  ·have hib:i < b.length:=by rw [← HN.out];exact hin
   have hst:=leadZ_drop b i hib
   obtain ⟨g,o,rfl,_,hc⟩:=HR.out.at (by omega)
   have ci:=hc i hib
   generalize b.getD i 0=x at ci hst
   by_cases hx:x=0
   ·subst hx
    have HSt:=Hd hst
    clear hc hst
    go_wp2
    go_roundw
    case rel=>exact ⟨i+1,by go_num,by omega,by trivial,Hd (by rw [HZ.out,HSt.out,if_pos rfl];omega)⟩
    case measure=>simp [intOf];omega
   ·have hx':(x == 0)=false:=by simpa using hx
    have HSt:Hid (leadZ (b.drop i)=0):=Hd (by rw [hst,if_neg hx])
    clear hc hst hx
    go_wp2
    go_ret
    exact ⟨by rw [HZ.out,HSt.out];rfl,rfl⟩
  ·have:i=n:=by omega
   subst this
   go_wp2
   go_ret
   exact ⟨by rw [HZ.out,List.drop_eq_nil_of_le (by rw [← HN.out];exact Nat.le_refl _)];rfl,rfl⟩
def tailS (b:List Int)(cr fl:Nat):Nat × Int:=if 4≤b.length∧num (b.take 4)≠cr then (0,7) else if b.length < 8 then (b.length,2) else if num ((b.drop 4).take 4)≠fl then (0,7) else (0,0)
theorem tail_any (w:World)(T:Nat)(ao:Option Addr)(n c:Nat)(b:List Int)(fo:Option Addr)(fn fc:Nat)(F:List Int)(hT:Tbl w T)(hR:CurRow w ao c b)(hn:n=b.length)(hF:CurRow w fo fc F)(hf:fn=F.length)(hfl:fn≤1000000):
  Calls Tryz.prog 46 #[.pointer (some ⟨T,0,none⟩),.slice ao n c,.slice fo fn fc] w fun e w'=>e = .returned (.tuple #[.int .i64 ((tailS b (crcOf 0 (nats F)) fn).1:Nat),.int .i64 (tailS b (crcOf 0 (nats F)) fn).2])∧Kept NoB w w':=by
 have hcap:n≤c:=by rw [hn];exact hR.cap
 have hlt:=crc16_nat F
 have hsum:∀ w1,Kept NoB w w1→Calls Tryz.prog 44 #[.pointer (some ⟨T,0,none⟩),.slice (some ⟨w1.heap.size,0,none⟩) 1 1] (w1.alloc (.cells #[.slice fo fn fc] 22)) fun e w'=>e = .returned (.int .u32 (crcOf 0 (nats F):Nat))∧Kept NoB w w':=by
  intro w1 hk
  have hk2:Kept NoB w (w1.alloc (.cells #[.slice fo fn fc] 22)):=hk.alloc _
  have hF2:=hF.keptNo hk2
  have:=sum_any (w1.alloc (.cells #[.slice fo fn fc] 22)) T (some ⟨w1.heap.size,0,none⟩) 1 1 [F] (hT.keptNo hk2) (.inr ⟨w1.heap.size,0,rfl,by simp,fun i hi=>by
   have:i=0:=by simpa using hi
   subst this
   exact ⟨fo,fc,by rw [cell_new 0 rfl];simp [hf],by simpa using hF2.rd,by simpa using hF2.cap,hF2.most,hF2.nil⟩⟩) (by intro p hp;simp at hp;subst hp;exact hF.all) rfl (by decide)
  refine this.mono ?_
  rintro e w' ⟨rfl,h⟩
  exact ⟨by simp,hk2.trans h⟩
 have HS:=Hd hsum;have HR:=Hd hR;have HN:=Hd hn
 clear hsum hR hF hT hf hn
 obtain ⟨cr,hcr⟩:∃ cr,cr=crcOf 0 (nats F):=⟨_,rfl⟩
 rw [← hcr] at HS hlt ⊢
 clear hcr
 by_cases h4:n < 4
 ·have HTv:Hid (tailS b cr fn=(n,2)):=Hd (by unfold tailS;rw [← HN.out,if_neg (by omega),if_pos (by omega)])
  rw [HTv.out]
  go_enter Tryz.func46,Tryz.ntmps46
  go_wp2
  go_ret2
  exact ⟨rfl,Kept.refl _ _⟩
 ·have hnl:4≤n:=by omega
  obtain ⟨o1,hs1,hp1⟩:=slg_h ao n c 4 b HN.out hnl hcap HR.out.nil
  have hs1:∀ W,(Instr.slice 22 (.slice ao n c) none (some (.int .i64 4)) none).run Tryz.prog W = .ok (.slice o1 4 c) W:=hs1
  have hr1:=hp1.reads w HR.out.rd
  have e1:(b.drop 0).take (4 - 0)=b.take 4:=rfl
  rw [e1] at hr1
  have HQ:=Hd (numG_any w o1 4 c (b.take 4) hr1 (HR.out.all.take 4) (by rw [List.length_take,← HN.out];omega) (by decide))
  obtain ⟨n1,hn1⟩:∃ n1,n1=num (b.take 4):=⟨_,rfl⟩
  rw [← hn1] at HQ
  obtain ⟨x,hx⟩:∃ x:Bool,x=decide (n1≠cr):=⟨_,rfl⟩
  have hxe:((n1:Int) != (cr:Int))=x:=by
   rw [hx]
   by_cases h:n1=cr
   ·rw [h];simp
   ·rw [bne_iff_ne.2 (show (n1:Int)≠(cr:Int) by omega)];simp [h]
  have HX:=Hd hx;have HN1:=Hd hn1
  clear hp1 hr1 e1 hx hn1
  have HS0:=Hd (HS.out w (Kept.refl _ _))
  cases x with
  | true=>
   have HTv:Hid (tailS b cr fn=(0,7)):=Hd (by unfold tailS;rw [if_pos ⟨by rw [← HN.out];exact hnl,by rw [← HN1.out];have:=HX.out;simpa using this.symm⟩])
   rw [HTv.out]
   go_enter Tryz.func46,Tryz.ntmps46
   go_wp2_with fail
   refine HQ.out.mono ?_
   rintro e w1 ⟨rfl,rfl⟩
   go_wp2_with fail
   refine HS0.out.mono ?_
   rintro e w2 ⟨rfl,hk2⟩
   have HK2:=Hd hk2
   clear hk2
   go_wp2
   go_ret2
   exact ⟨rfl,HK2.out⟩
  | false=>
   have HE:Hid (n1=cr):=Hd (by have:=HX.out;simpa using this.symm)
   by_cases h8:n < 8
   ·have HTv:Hid (tailS b cr fn=(n,2)):=Hd (by unfold tailS;rw [← HN.out,← HN1.out,if_neg (fun k=>k.2 HE.out),if_pos h8])
    rw [HTv.out]
    go_enter Tryz.func46,Tryz.ntmps46
    go_wp2_with fail
    refine HQ.out.mono ?_
    rintro e w1 ⟨rfl,rfl⟩
    go_wp2_with fail
    refine HS0.out.mono ?_
    rintro e w2 ⟨rfl,hk2⟩
    have HK2:=Hd hk2
    clear hk2
    go_wp2
    go_ret2
    exact ⟨rfl,HK2.out⟩
   ·have hn8:8≤n:=by omega
    obtain ⟨o2,hs2,hp2⟩:=slg_lh ao n c 4 8 b HN.out (by decide) hn8 hcap HR.out.nil
    have hs2:∀ W,(Instr.slice 22 (.slice ao n c) (some (.int .i64 4)) (some (.int .i64 8)) none).run Tryz.prog W = .ok (.slice o2 4 (c - 4)) W:=hs2
    have e2:(b.drop 4).take (8 - 4)=(b.drop 4).take 4:=rfl
    have HQ2:=Hd (fun (W:World) (hk:Kept NoB w W)=>numG_any W o2 4 (c - 4) ((b.drop 4).take 4) (by have:=hp2.reads W (HR.out.rd.keptNo hk);rw [e2] at this;exact this) ((HR.out.all.drop 4).take 4) (by rw [List.length_take,List.length_drop,← HN.out];omega) (by decide))
    obtain ⟨n2,hn2⟩:∃ n2,n2=num ((b.drop 4).take 4):=⟨_,rfl⟩
    rw [← hn2] at HQ2
    have hmk:bits .and .i64 (fn:Int) 4294967295=(fn:Int):=by
     have:=i64_andG fn 4294967295 (by omega) (by decide)
     rw [show fn &&& 4294967295=fn % 2 ^ 32 from Nat.and_two_pow_sub_one_eq_mod fn 32,Nat.mod_eq_of_lt (by omega)] at this
     exact this
    obtain ⟨y,hy⟩:∃ y:Bool,y=decide (n2≠fn):=⟨_,rfl⟩
    have hye:((n2:Int) != (fn:Int))=y:=by
     rw [hy]
     by_cases h:n2=fn
     ·rw [h];simp
     ·rw [bne_iff_ne.2 (show (n2:Int)≠(fn:Int) by omega)];simp [h]
    have HY:=Hd hy;have HN2:=Hd hn2
    clear hp2 e2 hy hn2
    cases y with
    | true=>
     have HTv:Hid (tailS b cr fn=(0,7)):=Hd (by unfold tailS;rw [← HN.out,← HN1.out,if_neg (fun k=>k.2 HE.out),if_neg h8,← HN2.out,if_pos (by have:=HY.out;simpa using this.symm)])
     rw [HTv.out]
     go_enter Tryz.func46,Tryz.ntmps46
     go_wp2_with fail
     refine HQ.out.mono ?_
     rintro e w1 ⟨rfl,rfl⟩
     go_wp2_with fail
     refine HS0.out.mono ?_
     rintro e w2 ⟨rfl,hk2⟩
     have HK2:=Hd hk2
     clear hk2
     go_wp2_with fail
     refine (HQ2.out w2 HK2.out).mono ?_
     rintro e w3 ⟨rfl,rfl⟩
     go_wp2
     go_ret2
     exact ⟨rfl,HK2.out⟩
    | false=>
     have HTv:Hid (tailS b cr fn=(0,0)):=Hd (by unfold tailS;rw [← HN.out,← HN1.out,if_neg (fun k=>k.2 HE.out),if_neg h8,← HN2.out,if_neg (by have:=HY.out;simpa using this.symm)])
     rw [HTv.out]
     go_enter Tryz.func46,Tryz.ntmps46
     go_wp2_with fail
     refine HQ.out.mono ?_
     rintro e w1 ⟨rfl,rfl⟩
     go_wp2_with fail
     refine HS0.out.mono ?_
     rintro e w2 ⟨rfl,hk2⟩
     have HK2:=Hd hk2
     clear hk2
     go_wp2_with fail
     refine (HQ2.out w2 HK2.out).mono ?_
     rintro e w3 ⟨rfl,rfl⟩
     go_wp2
     go_ret2
     exact ⟨rfl,HK2.out⟩
def nextF (v:Int)(r:Nat):(Int × Int) × Nat:=
 if 0 < v∧3≤r then ((16,((min (r - 3) 3:Nat):Int)),3+min (r - 3) 3)
 else if v=0∧11≤r then ((18,((min (r - 11) 127:Nat):Int)),11+min (r - 11) 127)
 else if v=0∧3≤r then ((17,((min (r - 3) 7:Nat):Int)),3+min (r - 3) 7)
 else ((v,0),1)
theorem nextF_pos (v:Int)(r:Nat):1≤(nextF v r).2:=by
 unfold nextF
 split
 ·simp only;omega
 ·split
  ·simp only;omega
  ·split
   ·simp only;omega
   ·simp
def contF (v:Int)(r:Nat):List (Int × Int):=
 if h:r=0 then [] else (nextF v r).1 :: contF v (r - (nextF v r).2)
termination_by r
decreasing_by have:=nextF_pos v r;omega
theorem contF_zero (v:Int):contF v 0=[]:=by rw [contF,dif_pos rfl]
theorem contF_step (v:Int){r:Nat}(h:0 < r):contF v r=(nextF v r).1 :: contF v (r - (nextF v r).2):=by
 rw [contF,dif_neg (by omega)]
def firstF (v:Int)(t:Nat):List (Int × Int):=if 0 < v then (v,0) :: contF v (t - 1) else contF v t
structure ToldF (v:Int)(t d:Nat)(rs:List (Int × Int)):Prop where
 told:Told v d rs
 can:rs++contF v (t - d)=firstF v t
theorem ToldF.next {v:Int}{t d R k:Nat}{rs:List (Int × Int)}{s x:Int}(h:ToldF v t d rs)(hR:(R:Int)=(t:Int) - (d:Int))(hR1:0 < R)(hn:nextF v R=((s,x),k))(ht:Told v (d+k) (rs++[(s,x)])):ToldF v t (d+k) (rs++[(s,x)]):=by
 refine ⟨ht,?_⟩
 have hc:=h.can
 rw [show t - d=R by omega,contF_step v hR1,hn] at hc
 rw [← hc,List.append_assoc,show t - (d+k)=R - k by omega]
 rfl
theorem next_again {v:Int}{R m:Nat}(hv:0 < v)(h:3≤R)(hm:m=min (R - 3) 3):nextF v R=((16,(m:Int)),3+m):=by
 unfold nextF;rw [if_pos ⟨hv,h⟩,hm]
theorem next_one {v:Int}{R m:Nat}(hv:0 < v)(h:R < 3)(hm:m=0):nextF v R=((v,0),1+m):=by
 unfold nextF;rw [if_neg (by omega),if_neg (by omega),if_neg (by omega),hm]
theorem next_many {R m:Nat}(h:11≤R)(hm:m=min (R - 11) 127):nextF 0 R=((18,(m:Int)),11+m):=by
 unfold nextF;rw [if_neg (by omega),if_pos ⟨rfl,h⟩,hm]
theorem next_few {R m:Nat}(h:3≤R)(h2:R < 11)(hm:m=min (R - 3) 7):nextF 0 R=((17,(m:Int)),3+m):=by
 unfold nextF;rw [if_neg (by omega),if_neg (by omega),if_pos ⟨rfl,h⟩,hm]
theorem next_none {R m:Nat}(h:R < 3)(hm:m=0):nextF 0 R=((0,0),1+m):=by
 unfold nextF;rw [if_neg (by omega),if_neg (by omega),if_neg (by omega),hm]
theorem appendRuns_f (a:Option Addr)(c:Nat)(rs0:List (Int × Int))(v:Int)(t:Nat)(w:World)(hown:OwnR w a c rs0)(hv:0≤v∧v≤15)(ht:1≤t∧t≤1000)(hl:rs0.length≤1000):
  Calls Tryz.prog 171 #[.slice a rs0.length c,.int .i64 v,.int .i64 (t:Int)] w fun e w'=>∃ rs' a' c',e = .returned (.slice a' (rs0++rs').length c')∧Told v t rs'∧rs'=firstF v t∧1≤rs'.length∧rs'.length≤t∧ASt w a c rs0 w' (rs0++rs') a' c':=by
 have HOwn:=Hd hown
 obtain ⟨i0,hi,hz0,hz1,hz2⟩:=info_parts infoR
 obtain ⟨len0,hlen0⟩:∃ n,n=rs0.length:=⟨_,rfl⟩
 have HL0:=Hd hlen0
 have hl0:len0≤1000:=by omega
 rw [← hlen0]
 clear hown hlen0 hl
 go_enter Tryz.func171,Tryz.ntmps171
 go_upto_if 12 with fail
 go_cut [0,2] from 12 to 19 (fun v0 v2 wx=>∃ (d:Nat) (rs':List (Int × Int)) (a':Option Addr) (c' len:Nat),v0 = .slice a' len c'∧v2 = .int .i64 ((t:Int) - (d:Int))∧Hid (len=(rs0++rs').length)∧d≤t∧Hid (rs'.length≤d∧(d≠0→rs'≠[]))∧(0 < v→1≤d)∧Hid (ToldF v t d rs')∧Hid (ASt w a c rs0 wx (rs0++rs') a' c'))
 case first=>
  by_cases hv0:0 < v
  ·have hrow:=(HOwn.out:w.ownsRow 0 125 2 (.slice a rs0.length c) rs0.length (rcells rs0)).alloc (.cells #[.int .i64 v,.int .i64 0] 125)
   rw [← HL0.out] at hrow
   have HRow:=Hd hrow;have HNw:=Hd (news2 w v 0)
   clear hrow
   go_wp2_with (at_builtin;refine wpList_app _ rfl _ _ 207 rfl 125 i0 (.agg #[.int .i64 0,.int .i64 0]) 2 16 Tryz.underlying207 hi hz0 hz1 hz2 rfl (by decide) _ len0 (rcells rs0) rfl HRow.out ⟨w.heap.size,0,none⟩ 1 1 [.int .i64 v,.int .i64 0] rfl rfl HNw.out ?d2 ?d3 ?d4 ?_)
   case d2=>first | rfl | (intro u hu;simp at hu;rcases hu with rfl | rfl <;> rfl) | (simp [Value.oneCell'])
   case d3=>unfold maxLen;omega
   case d4=>omega
   intro v' w2 hown' hgrow hnew
   obtain ⟨a2,c2,rfl⟩:=own_shape2 hown'
   have hst:=(ASt.start HOwn.out).app HL0.out hown' hgrow hnew
   have HSt:=Hd hst
   clear hst hown' hgrow hnew
   go_wp2
   go_meet
   exact ⟨1,[(v,0)],a2,c2,len0+1,rfl,rfl,Hd (show len0+1=(rs0++[(v,0)]).length by rw [HL0.out];simp),ht.1,⟨by simp,fun _ h=>by cases h⟩,fun _=>by omega,Hd (show ToldF v t 1 [(v,0)] from ⟨by have:=(Told.nil v).one hv;simpa using this,by unfold firstF;rw [if_pos hv0];rfl⟩),HSt.out⟩
  ·go_wp2
   go_meet
   exact ⟨0,[],a,c,len0,rfl,by simp,Hd (show len0=(rs0++[]).length by rw [HL0.out,List.append_nil]),by omega,⟨by simp,fun h=>absurd rfl h⟩,fun h=>by omega,⟨Told.nil v,by unfold firstF;rw [if_neg (by omega)];rfl⟩,(by rw [List.append_nil];exact ASt.start HOwn.out)⟩
 case rest=>
 obtain ⟨d0,rs1,a1,c1,len1,rfl,rfl,HL1,hd0,HR1,hvd0,HT1,HS1⟩:=hcut
 have HSpan:=Hd (fun s w=>span_any s w)
 go_wp2
 go_loopw [0,2,7,8,9,10] (fun v0 v2 v7 v8 v9 v10 wr=>∃ (d:Nat) (rs':List (Int × Int)) (a':Option Addr) (c' len:Nat),v0 = .slice a' len c'∧v2 = .int .i64 ((t:Int) - (d:Int))∧Hid (len=(rs0++rs').length)∧d≤t∧Hid (rs'.length≤d∧(d≠0→rs'≠[]))∧(0 < v→1≤d)∧Hid (ToldF v t d rs')∧Hid (ASt w a c rs0 wr (rs0++rs') a' c')) (fun _ v2 _ _ _ _ _=>(intOf v2).toNat)
 case atStart=>exact ⟨d0,rs1,a1,c1,len1,rfl,rfl,HL1,hd0,HR1,hvd0,HT1,HS1⟩
 case round=>
  clear HL1 hd0 HR1 hvd0 HT1 HS1
  obtain ⟨d,rs',a',c',len,rfl,rfl,HL,hd,HR,hvd,HT,HS⟩:=hrel
  have hlen:len≤2000:=by have h1:=HL.out;have h2:=HR.out.1;have h3:=HL0.out;rw [List.length_append] at h1;omega
  have hrow:=HS.out.own
  unfold OwnR at hrow
  rw [← HL.out] at hrow
  have HRow:=Hd hrow
  clear hrow
  by_cases hdt:d < t
  ·obtain ⟨R,hR⟩:∃ R:Nat,(R:Int)=(t:Int) - (d:Int):=⟨t - d,by omega⟩
   have hR1:1≤R∧R≤1000:=by omega
   have HRe:=Hd hR
   rw [← hR]
   clear hR
   have hcase:(0 < v∧3≤R)∨(0 < v∧R < 3)∨(v=0∧11≤R)∨(v=0∧3≤R∧R < 11)∨(v=0∧R < 3):=by omega
   rcases hcase with ⟨hv1,hr1⟩ | ⟨hv1,hr1⟩ | ⟨rfl,hr1⟩ | ⟨rfl,hr1,hr2⟩ | ⟨rfl,hr1⟩
   ·have hsp:∀ w,Calls Tryz.prog 173 #[.int .i64 16] w fun e w'=>e = .returned (.tuple #[.int .i64 3,.int .i64 2])∧w=w':=fun w=>by
     exact span_any 16 w
    have HSp1:=Hd hsp
    clear hsp HSpan
    obtain ⟨m,hm⟩:∃ m:Nat,m=min (R - 3) 3:=⟨_,rfl⟩
    have hmin:(if (3:Int) < (R:Int) - 3 then (3:Int) else (R:Int) - 3)=(m:Int):=by split <;> omega
    have hmM:m≤3∧3+m≤R:=by omega
    have hT2:ToldF v t (d+(3+m)) (rs'++[(16,(m:Int))]):=HT.out.next HRe.out (by omega) (next_again hv1 hr1 hm) (HT.out.told.again (hvd hv1) hmM.1)
    have HT2:=Hd hT2;have HV:=Hd hvd
    clear hT2 hm hvd
    have h3:(3:Int)≤R:=by omega
    go_wp2_with fail
    refine (HSp1.out _).mono ?_
    rintro e w2 ⟨rfl,rfl⟩
    have hrow2:=HRow.out.alloc (.cells #[.int .i64 16,.int .i64 (m:Int)] 125)
    have HRow2:=Hd hrow2;have HNw:=Hd (news2 wr 16 (m:Int))
    clear hrow2
    go_wp2_with (at_builtin;refine wpList_app _ rfl _ _ 207 rfl 125 i0 (.agg #[.int .i64 0,.int .i64 0]) 2 16 Tryz.underlying207 hi hz0 hz1 hz2 rfl (by decide) _ len (rcells (rs0++rs')) rfl HRow2.out ⟨wr.heap.size,0,none⟩ 1 1 [.int .i64 16,.int .i64 (m:Int)] rfl rfl HNw.out ?d2 ?d3 ?d4 ?_)
    case d2=>first | rfl | (intro u hu;simp at hu;rcases hu with rfl | rfl <;> rfl) | (simp [Value.oneCell'])
    case d3=>unfold maxLen;omega
    case d4=>omega
    intro v' w2 hown' hgrow hnew
    obtain ⟨a2,c2,rfl⟩:=own_shape2 hown'
    have hst:=HS.out.app HL.out hown' hgrow hnew
    rw [List.append_assoc] at hst
    have HSt:=Hd hst
    have HL2:Hid (len+1=(rs0++(rs'++[(16,(m:Int))])).length):=by
     have h1:=HL.out
     rw [List.length_append] at h1
     show len+1=_
     rw [List.length_append,List.length_append]
     simp
     omega
    have HR2:Hid ((rs'++[((16:Int),((m:Int):Int))]).length≤d+(3+m)∧(d+(3+m)≠0→rs'++[((16:Int),((m:Int):Int))]≠[])):=by
     refine ⟨?_,fun _ h=>?_⟩
     ·have:=HR.out.1
      rw [List.length_append]
      simp
      omega
     ·have:=congrArg List.length h
      simp at this
    clear hst hown' hgrow hnew
    go_wp2
    go_roundw
    case rel=>exact ⟨d+(3+m),rs'++[(16,(m:Int))],a2,c2,len+1,rfl,by have:=HRe.out;congr 1;omega,HL2,by have:=HRe.out;omega,HR2,fun h=>by have:=HV.out h;omega,HT2,HSt⟩
    case measure=>simp [intOf];omega
   ·have hsp:∀ w,Calls Tryz.prog 173 #[.int .i64 v] w fun e w'=>e = .returned (.tuple #[.int .i64 1,.int .i64 0])∧w=w':=fun w=>by
     have h:=span_any v w;rw [show spanL v=1 by unfold spanL;rw [if_neg (by omega),if_neg (by omega),if_neg (by omega)],show spanB v=0 by unfold spanB;rw [if_neg (by omega),if_neg (by omega),if_neg (by omega)]] at h;exact h
    have HSp1:=Hd hsp
    clear hsp HSpan
    obtain ⟨m,hm⟩:∃ m:Nat,m=min (R - 1) 0:=⟨_,rfl⟩
    have hmin:(if (0:Int) < (R:Int) - 1 then (0:Int) else (R:Int) - 1)=0:=by split <;> omega
    have hmin2:(if (1:Int) < (R:Int) then (0:Int) else (R:Int) - 1)=0:=by split <;> omega
    have hmM:m≤0∧1+m≤R:=by omega
    have hT2:ToldF v t (d+(1+m)) (rs'++[(v,0)]):=HT.out.next HRe.out (by omega) (next_one hv1 hr1 (by omega)) (by rw [show 1+m=1 by omega];exact HT.out.told.one hv)
    have HT2:=Hd hT2;have HV:=Hd hvd
    clear hT2 hm hvd
    have h3:¬ (3:Int)≤R:=by omega
    have hv0:(v == 0)=false:=by simp;omega
    go_wp2_with fail
    refine (HSp1.out _).mono ?_
    rintro e w2 ⟨rfl,rfl⟩
    have hrow2:=HRow.out.alloc (.cells #[.int .i64 v,.int .i64 0] 125)
    have HRow2:=Hd hrow2;have HNw:=Hd (news2 wr v 0)
    clear hrow2
    go_wp2_with (at_builtin;refine wpList_app _ rfl _ _ 207 rfl 125 i0 (.agg #[.int .i64 0,.int .i64 0]) 2 16 Tryz.underlying207 hi hz0 hz1 hz2 rfl (by decide) _ len (rcells (rs0++rs')) rfl HRow2.out ⟨wr.heap.size,0,none⟩ 1 1 [.int .i64 v,.int .i64 0] rfl rfl HNw.out ?d2 ?d3 ?d4 ?_)
    case d2=>first | rfl | (intro u hu;simp at hu;rcases hu with rfl | rfl <;> rfl) | (simp [Value.oneCell'])
    case d3=>unfold maxLen;omega
    case d4=>omega
    intro v' w2 hown' hgrow hnew
    obtain ⟨a2,c2,rfl⟩:=own_shape2 hown'
    have hst:=HS.out.app HL.out hown' hgrow hnew
    rw [List.append_assoc] at hst
    have HSt:=Hd hst
    have HL2:Hid (len+1=(rs0++(rs'++[(v,0)])).length):=by
     have h1:=HL.out
     rw [List.length_append] at h1
     show len+1=_
     rw [List.length_append,List.length_append]
     simp
     omega
    have HR2:Hid ((rs'++[((v:Int),(0:Int))]).length≤d+(1+m)∧(d+(1+m)≠0→rs'++[((v:Int),(0:Int))]≠[])):=by
     refine ⟨?_,fun _ h=>?_⟩
     ·have:=HR.out.1
      rw [List.length_append]
      simp
      omega
     ·have:=congrArg List.length h
      simp at this
    clear hst hown' hgrow hnew
    go_wp2
    go_roundw
    case rel=>exact ⟨d+(1+m),rs'++[(v,0)],a2,c2,len+1,rfl,by have:=HRe.out;congr 1;omega,HL2,by have:=HRe.out;omega,HR2,fun h=>by have:=HV.out h;omega,HT2,HSt⟩
    case measure=>simp [intOf];omega
   ·have hsp:∀ w,Calls Tryz.prog 173 #[.int .i64 18] w fun e w'=>e = .returned (.tuple #[.int .i64 11,.int .i64 7])∧w=w':=fun w=>by
     exact span_any 18 w
    have HSp1:=Hd hsp
    clear hsp HSpan
    obtain ⟨m,hm⟩:∃ m:Nat,m=min (R - 11) 127:=⟨_,rfl⟩
    have hmin:(if (127:Int) < (R:Int) - 11 then (127:Int) else (R:Int) - 11)=(m:Int):=by split <;> omega
    have hmM:m≤127∧11+m≤R:=by omega
    have hT2:ToldF 0 t (d+(11+m)) (rs'++[(18,(m:Int))]):=HT.out.next HRe.out (by omega) (next_many hr1 hm) (HT.out.told.many hmM.1)
    have HT2:=Hd hT2;have HV:=Hd hvd
    clear hT2 hm hvd
    have h3:(11:Int)≤R:=by omega
    go_wp2_with fail
    refine (HSp1.out _).mono ?_
    rintro e w2 ⟨rfl,rfl⟩
    have hrow2:=HRow.out.alloc (.cells #[.int .i64 18,.int .i64 (m:Int)] 125)
    have HRow2:=Hd hrow2;have HNw:=Hd (news2 wr 18 (m:Int))
    clear hrow2
    go_wp2_with (at_builtin;refine wpList_app _ rfl _ _ 207 rfl 125 i0 (.agg #[.int .i64 0,.int .i64 0]) 2 16 Tryz.underlying207 hi hz0 hz1 hz2 rfl (by decide) _ len (rcells (rs0++rs')) rfl HRow2.out ⟨wr.heap.size,0,none⟩ 1 1 [.int .i64 18,.int .i64 (m:Int)] rfl rfl HNw.out ?d2 ?d3 ?d4 ?_)
    case d2=>first | rfl | (intro u hu;simp at hu;rcases hu with rfl | rfl <;> rfl) | (simp [Value.oneCell'])
    case d3=>unfold maxLen;omega
    case d4=>omega
    intro v' w2 hown' hgrow hnew
    obtain ⟨a2,c2,rfl⟩:=own_shape2 hown'
    have hst:=HS.out.app HL.out hown' hgrow hnew
    rw [List.append_assoc] at hst
    have HSt:=Hd hst
    have HL2:Hid (len+1=(rs0++(rs'++[(18,(m:Int))])).length):=by
     have h1:=HL.out
     rw [List.length_append] at h1
     show len+1=_
     rw [List.length_append,List.length_append]
     simp
     omega
    have HR2:Hid ((rs'++[((18:Int),((m:Int):Int))]).length≤d+(11+m)∧(d+(11+m)≠0→rs'++[((18:Int),((m:Int):Int))]≠[])):=by
     refine ⟨?_,fun _ h=>?_⟩
     ·have:=HR.out.1
      rw [List.length_append]
      simp
      omega
     ·have:=congrArg List.length h
      simp at this
    clear hst hown' hgrow hnew
    go_wp2
    go_roundw
    case rel=>exact ⟨d+(11+m),rs'++[(18,(m:Int))],a2,c2,len+1,rfl,by have:=HRe.out;congr 1;omega,HL2,by have:=HRe.out;omega,HR2,fun h=>by have:=HV.out h;omega,HT2,HSt⟩
    case measure=>simp [intOf];omega
   ·have hsp:∀ w,Calls Tryz.prog 173 #[.int .i64 17] w fun e w'=>e = .returned (.tuple #[.int .i64 3,.int .i64 3])∧w=w':=fun w=>by
     exact span_any 17 w
    have HSp1:=Hd hsp
    clear hsp HSpan
    obtain ⟨m,hm⟩:∃ m:Nat,m=min (R - 3) 7:=⟨_,rfl⟩
    have hmin:(if (7:Int) < (R:Int) - 3 then (7:Int) else (R:Int) - 3)=(m:Int):=by split <;> omega
    have hmM:m≤7∧3+m≤R:=by omega
    have hT2:ToldF 0 t (d+(3+m)) (rs'++[(17,(m:Int))]):=HT.out.next HRe.out (by omega) (next_few hr1 hr2 hm) (HT.out.told.few hmM.1)
    have HT2:=Hd hT2;have HV:=Hd hvd
    clear hT2 hm hvd
    have h3:¬ (11:Int)≤R:=by omega
    have h4:(3:Int)≤R:=by omega
    have hx:(R:Int) - 3=(m:Int):=by have:=hmin;split at this <;> omega
    have h7:¬ (7:Int) < (m:Int):=by omega
    clear hmin
    go_wp2_with fail
    refine (HSp1.out _).mono ?_
    rintro e w2 ⟨rfl,rfl⟩
    have hrow2:=HRow.out.alloc (.cells #[.int .i64 17,.int .i64 (m:Int)] 125)
    have HRow2:=Hd hrow2;have HNw:=Hd (news2 wr 17 (m:Int))
    clear hrow2
    go_wp2_with (at_builtin;refine wpList_app _ rfl _ _ 207 rfl 125 i0 (.agg #[.int .i64 0,.int .i64 0]) 2 16 Tryz.underlying207 hi hz0 hz1 hz2 rfl (by decide) _ len (rcells (rs0++rs')) rfl HRow2.out ⟨wr.heap.size,0,none⟩ 1 1 [.int .i64 17,.int .i64 (m:Int)] rfl rfl HNw.out ?d2 ?d3 ?d4 ?_)
    case d2=>first | rfl | (intro u hu;simp at hu;rcases hu with rfl | rfl <;> rfl) | (simp [Value.oneCell'])
    case d3=>unfold maxLen;omega
    case d4=>omega
    intro v' w2 hown' hgrow hnew
    obtain ⟨a2,c2,rfl⟩:=own_shape2 hown'
    have hst:=HS.out.app HL.out hown' hgrow hnew
    rw [List.append_assoc] at hst
    have HSt:=Hd hst
    have HL2:Hid (len+1=(rs0++(rs'++[(17,(m:Int))])).length):=by
     have h1:=HL.out
     rw [List.length_append] at h1
     show len+1=_
     rw [List.length_append,List.length_append]
     simp
     omega
    have HR2:Hid ((rs'++[((17:Int),((m:Int):Int))]).length≤d+(3+m)∧(d+(3+m)≠0→rs'++[((17:Int),((m:Int):Int))]≠[])):=by
     refine ⟨?_,fun _ h=>?_⟩
     ·have:=HR.out.1
      rw [List.length_append]
      simp
      omega
     ·have:=congrArg List.length h
      simp at this
    clear hst hown' hgrow hnew
    go_wp2
    go_roundw
    case rel=>exact ⟨d+(3+m),rs'++[(17,(m:Int))],a2,c2,len+1,rfl,by have:=HRe.out;congr 1;omega,HL2,by have:=HRe.out;omega,HR2,fun h=>by have:=HV.out h;omega,HT2,HSt⟩
    case measure=>simp [intOf];omega
   ·have hsp:∀ w,Calls Tryz.prog 173 #[.int .i64 0] w fun e w'=>e = .returned (.tuple #[.int .i64 1,.int .i64 0])∧w=w':=fun w=>by
     exact span_any 0 w
    have HSp1:=Hd hsp
    clear hsp HSpan
    obtain ⟨m,hm⟩:∃ m:Nat,m=min (R - 1) 0:=⟨_,rfl⟩
    have hmin:(if (0:Int) < (R:Int) - 1 then (0:Int) else (R:Int) - 1)=0:=by split <;> omega
    have hmin2:(if (1:Int) < (R:Int) then (0:Int) else (R:Int) - 1)=0:=by split <;> omega
    have hmM:m≤0∧1+m≤R:=by omega
    have hT2:ToldF 0 t (d+(1+m)) (rs'++[(0,0)]):=HT.out.next HRe.out (by omega) (next_none hr1 (by omega)) (by rw [show 1+m=1 by omega];exact HT.out.told.one hv)
    have HT2:=Hd hT2;have HV:=Hd hvd
    clear hT2 hm hvd
    have h3:¬ (11:Int)≤R:=by omega
    have h4:¬ (3:Int)≤R:=by omega
    go_wp2_with fail
    refine (HSp1.out _).mono ?_
    rintro e w2 ⟨rfl,rfl⟩
    have hrow2:=HRow.out.alloc (.cells #[.int .i64 0,.int .i64 0] 125)
    have HRow2:=Hd hrow2;have HNw:=Hd (news2 wr 0 0)
    clear hrow2
    go_wp2_with (at_builtin;refine wpList_app _ rfl _ _ 207 rfl 125 i0 (.agg #[.int .i64 0,.int .i64 0]) 2 16 Tryz.underlying207 hi hz0 hz1 hz2 rfl (by decide) _ len (rcells (rs0++rs')) rfl HRow2.out ⟨wr.heap.size,0,none⟩ 1 1 [.int .i64 0,.int .i64 0] rfl rfl HNw.out ?d2 ?d3 ?d4 ?_)
    case d2=>first | rfl | (intro u hu;simp at hu;rcases hu with rfl | rfl <;> rfl) | (simp [Value.oneCell'])
    case d3=>unfold maxLen;omega
    case d4=>omega
    intro v' w2 hown' hgrow hnew
    obtain ⟨a2,c2,rfl⟩:=own_shape2 hown'
    have hst:=HS.out.app HL.out hown' hgrow hnew
    rw [List.append_assoc] at hst
    have HSt:=Hd hst
    have HL2:Hid (len+1=(rs0++(rs'++[(0,0)])).length):=by
     have h1:=HL.out
     rw [List.length_append] at h1
     show len+1=_
     rw [List.length_append,List.length_append]
     simp
     omega
    have HR2:Hid ((rs'++[((0:Int),(0:Int))]).length≤d+(1+m)∧(d+(1+m)≠0→rs'++[((0:Int),(0:Int))]≠[])):=by
     refine ⟨?_,fun _ h=>?_⟩
     ·have:=HR.out.1
      rw [List.length_append]
      simp
      omega
     ·have:=congrArg List.length h
      simp at this
    clear hst hown' hgrow hnew
    go_wp2
    go_roundw
    case rel=>exact ⟨d+(1+m),rs'++[(0,0)],a2,c2,len+1,rfl,by have:=HRe.out;congr 1;omega,HL2,by have:=HRe.out;omega,HR2,fun h=>by have:=HV.out h;omega,HT2,HSt⟩
    case measure=>simp [intOf];omega
  ·have hdt':d=t:=by omega
   subst hdt'
   have hz:(d:Int) - (d:Int)=0:=by omega
   rw [hz]
   clear hz
   go_wp2
   go_ret
   refine ⟨rs',a',c',by rw [← HL.out];rfl,HT.out.told,(by have h:=HT.out.can;rw [Nat.sub_self,contF_zero,List.append_nil] at h;exact h),?_,HR.out.1,HS.out⟩
   have:=HR.out.2 (by omega)
   exact List.length_pos_iff.2 this
def groupE (l:List Int)(p:Nat):Nat:=p+1+((l.drop (p+1)).takeWhile (fun x=>x == l.getD p 0)).length
def restR (l:List Int)(p:Nat):List (Int × Int):=
 if h:p < l.length then firstF (l.getD p 0) (groupE l p - p)++restR l (groupE l p) else []
termination_by l.length - p
decreasing_by unfold groupE;omega
theorem restR_end (l:List Int):restR l l.length=[]:=by rw [restR,dif_neg (by omega)]
theorem restR_step (l:List Int){p:Nat}(h:p < l.length):restR l p=firstF (l.getD p 0) (groupE l p - p)++restR l (groupE l p):=by
 conv=>lhs;rw [restR,dif_pos h]
theorem group_eq {l:List Int}{p e:Nat}{z:Int}(hpe:p < e)(hel:e≤l.length)(hz:z=l.getD p 0)(ht:l.take e=l.take p++List.replicate (e - p) z)(hx:e=l.length∨l.getD e 0≠z):groupE l p=e:=by
 have h1:l.drop (p+1)=List.replicate (e - p - 1) z++l.drop e:=by
  conv=>lhs;rw [← List.take_append_drop e l]
  rw [List.drop_append,List.length_take,show p+1 - min e l.length=0 by omega,List.drop_zero,ht,List.drop_append,List.length_take,show p+1 - min p l.length=1 by omega,List.drop_replicate,List.drop_of_length_le (by rw [List.length_take];omega),List.nil_append]
 have h2:(l.drop e).takeWhile (fun x=>x == z)=[]:=by
  rcases hx with h | h
  ·rw [List.drop_of_length_le (by omega)];rfl
  ·by_cases hl:e < l.length
   ·rw [List.drop_eq_getElem_cons hl,List.takeWhile_cons]
    have e2:l.getD e 0=l[e]:=by simp [List.getD,hl]
    rw [e2] at h
    rw [if_neg (by simpa using h)]
   ·rw [List.drop_of_length_le (by omega)];rfl
 unfold groupE
 rw [← hz,h1,List.takeWhile_append_of_pos (by intro a ha;rw [(List.mem_replicate.1 ha).2];simp),h2,List.append_nil,List.length_replicate]
 omega
structure TellF (l:List Int)(p:Nat)(rs:List (Int × Int)):Prop where
 tells:Tells (l.take p) rs
 can:rs++restR l p=restR l 0
def RunsPF (l:List Int)(w:World)(e:Ending)(w':World):Prop:=
 ∃ (rs:List (Int × Int)) (a:Option Addr) (c:Nat),e = .returned (.slice a rs.length c)∧OwnR w' a c rs∧Kept NoB w w'∧(∀ k,(Value.slice a rs.length c).ownBlock=some k→w.heap.size≤k)∧
  (okL l→rs=restR l 0∧Tells l rs∧rs.length≤l.length∧(l≠[]→rs≠[]))∧(¬ okL l→rs=[])
theorem runs_f (a:Option Addr)(c:Nat)(l:List Int)(B:Nat)(w:World)(hr:RdI w B a l)(hm:l.length≤1000000):
  Calls Tryz.prog 147 #[.slice a l.length c] w (RunsPF l w):=by
 have HR:=Hd hr
 have hib:=inBounds_any a c l B w hr hm
 obtain ⟨n,hn⟩:∃ n,n=l.length:=⟨_,rfl⟩
 have HN:=Hd hn
 have hm2:n≤1000000:=by omega
 rw [← hn] at hib ⊢
 have hnone:¬ okL l→RunsPF l w (.returned (.slice none 0 0)) w:=fun h=>⟨[],none,0,rfl,World.ownsRow_nil _ _ _ _,Kept.refl _ _,fun k hk=>by simp [Value.ownBlock] at hk,fun h'=>absurd h' h,fun _=>rfl⟩
 have HNone:=Hd hnone;have HIb:=Hd hib
 clear hr hn hm hnone hib
 by_cases h320:320 < n
 ·have hno:¬ okL l:=fun h=>by have:=h.1;have:=HN.out;omega
  have HNo:=Hd hno
  clear hno
  go_enter Tryz.func147,Tryz.ntmps147
  go_wp2
  go_ret
  exact HNone.out HNo.out
 ·by_cases hall:∀ z∈l,0≤z∧z≤15
  ·have hok:okL l:=⟨by have:=HN.out;omega,hall⟩
   have hib:=HIb.out
   rw [decide_eq_true hall] at hib
   have HIb2:=Hd hib;have HOk:=Hd hok
   clear hib hall hok HIb HNone
   go_enter Tryz.func147,Tryz.ntmps147
   go_wp2_with fail
   refine HIb2.out.mono ?_
   rintro e w1 ⟨rfl,rfl⟩
   clear HIb2
   go_wp2
   go_loopw [3,4,5] (fun v3 v4 v5 wr=>∃ (p:Nat) (rs:List (Int × Int)) (a':Option Addr) (c':Nat),v3 = .slice a' rs.length c'∧v4 = .int .i64 (p:Int)∧p≤n∧Hid (TellF l p rs)∧Hid (rs.length≤p∧(p≠0→rs≠[]))∧Hid (OwnR wr a' c' rs)∧Hid (Kept NoB w wr)∧Hid (∀ k,(Value.slice a' rs.length c').ownBlock=some k→w.heap.size≤k)) (fun _ v4 _ _=>n - (intOf v4).toNat)
   case atStart=>exact ⟨0,[],none,0,rfl,rfl,by omega,⟨by rw [List.take_zero];exact Tells.nil,by rw [List.nil_append]⟩,⟨by simp,fun h=>absurd rfl h⟩,World.ownsRow_nil _ _ _ _,Kept.refl _ _,(fun k hk=>by simp [Value.ownBlock] at hk)⟩
   case round=>
    obtain ⟨p,rs,a',c',rfl,rfl,hp,HT,HL,HO,HK,HF⟩:=hrel
    by_cases hlt:(p:Int) < n
    ·obtain ⟨g,off,rfl,hgl,hcp⟩:=HR.out p (by have:=HN.out;omega)
     have hcp':=HK.out.cell hcp
     obtain ⟨z,hz⟩:∃ z,z=l.getD p 0:=⟨_,rfl⟩
     rw [← hz] at hcp'
     have hz15:0≤z∧z≤15:=by
      have hpl:p < l.length:=by have:=HN.out;omega
      have:z=l[p]:=by rw [hz];simp [List.getD,hpl]
      rw [this];exact HOk.out.2 _ (List.getElem_mem hpl)
     have HZ:=Hd hz
     clear hz hcp hgl
     go_upto_block 2 with fail
     go_cut [5] from 20 to 36 (fun v5 wx=>∃ e:Nat,v5 = .int .i64 (e:Int)∧p < e∧e≤n∧Hid (l.take e=l.take p++List.replicate (e - p) z)∧Hid (e=n∨l.getD e 0≠z)∧Hid (Kept NoB wr wx))
     case first=>
      go_wp2_with fail
      go_loopw [5] (fun v5 wx=>∃ e:Nat,v5 = .int .i64 (e:Int)∧p < e∧e≤n∧Hid (l.take e=l.take p++List.replicate (e - p) z)∧Hid (Kept NoB wr wx)) (fun v5 _=>n - (intOf v5).toNat)
      case atStart=>exact ⟨p+1,by go_num,by omega,by omega,take_more l p p z (by simp) (by have:=HN.out;omega) (Nat.le_refl _) HZ.out.symm,Kept.refl _ _⟩
      case round=>
       rename_i wx
       obtain ⟨e,rfl,hpe,hen,HE,HKx⟩:=hrel
       have hcpx:=HKx.out.cell hcp'
       by_cases hel:e < n
       ·obtain ⟨g2,off2,hg2,_,hce⟩:=HR.out e (by have:=HN.out;omega)
        cases hg2
        have hcex:=HKx.out.cell (HK.out.cell hce)
        obtain ⟨x,hx⟩:∃ x,x=l.getD e 0:=⟨_,rfl⟩
        rw [← hx] at hcex
        have hd:decide ((e:Int) < (n:Int))=true:=decide_eq_true (by omega)
        have HX:=Hd hx
        clear hx hce
        by_cases hxz:x=z
        ·have htk:=take_more l p e z HE.out (by have:=HN.out;omega) (by omega) (by rw [← HX.out];exact hxz)
         have HTk:=Hd htk
         have hb:(x == z)=true:=by simp;exact hxz
         clear htk
         go_upto_region 7 with fail
         go_quiet (fail)
         go_wp2
         go_roundw
         case rel=>exact ⟨e+1,by go_num,by omega,by omega,HTk.out,HKx.out.drewN _⟩
         case measure=>simp [intOf];omega
        ·have hb:(x == z)=false:=by simp;exact hxz
         have HNe:Hid (e=n∨l.getD e 0≠z):=Hd (.inr (by rw [← HX.out];exact hxz))
         clear hxz
         go_upto_region 7 with fail
         go_quiet (fail)
         go_wp2
         go_meet
         exact ⟨e,rfl,hpe,hen,HE,HNe,HKx.out.drewN _⟩
       ·have hd:decide ((e:Int) < (n:Int))=false:=decide_eq_false (by omega)
        go_upto_region 7 with fail
        go_quiet (fail)
        go_wp2
        go_meet
        exact ⟨e,rfl,hpe,hen,HE,Hd (.inl (by omega)),HKx.out.drewN _⟩
     case rest=>
     obtain ⟨e,rfl,hpe,hen,HE,HNe,HKx⟩:=hcut
     have hcpx:=HKx.out.cell hcp'
     obtain ⟨t,ht⟩:∃ t:Nat,t=e - p:=⟨_,rfl⟩
     have hsub:(e:Int) - (p:Int)=(t:Int):=by omega
     have hrl:rs.length≤1000:=by have:=HL.out.1;omega
     have hap:=appendRuns_f a' c' rs z t wc (HKx.out.row HO.out (fun _ _ h=>h)) hz15 (by omega) hrl
     have HAp:=Hd hap;have HTt:=Hd ht
     clear hap ht
     go_wp2_with fail
     refine HAp.out.mono ?_
     rintro ee w2 ⟨rs',a2,c2,rfl,htold,hfst,hr1,hr2,hst⟩
     have htl:l.take e=l.take p++List.replicate t z:=by rw [HTt.out];exact HE.out
     have hgr:groupE l p=e:=group_eq hpe (by rw [← HN.out];exact hen) HZ.out HE.out (by rw [← HN.out];exact HNe.out)
     have hT2:TellF l e (rs++rs'):=by
      refine ⟨by rw [htl];exact HT.out.tells.more htold,?_⟩
      have hc:=HT.out.can
      rw [restR_step l (show p < l.length by rw [← HN.out];omega),hgr,← HZ.out,← HTt.out,← hfst,← List.append_assoc] at hc
      exact hc
     have hK2:Kept NoB w w2:=(HK.out.trans HKx.out).trans' hst.kept (fun k hk e=>absurd hk (by have:=HF.out k e;omega))
     have hF2:∀ k,(Value.slice a2 (rs++rs').length c2).ownBlock=some k→w.heap.size≤k:=fun k hk=>by
      rcases hst.fresh k hk with h | h
      ·exact HF.out k h
      ·have:=(HK.out.trans HKx.out).size;omega
     have hL2:(rs++rs').length≤e∧(e≠0→rs++rs'≠[]):=by
      refine ⟨?_,fun _ h=>?_⟩
      ·have:=HL.out.1
       have:=HTt.out
       rw [List.length_append]
       omega
      ·have:=congrArg List.length h
       rw [List.length_append] at this
       simp at this
       rw [this.2] at hr1
       simp at hr1
     have HT2:=Hd hT2;have HK2:=Hd hK2;have HF2:=Hd hF2;have HL2:=Hd hL2;have HO2:=Hd hst.own
     obtain ⟨q,hq⟩:∃ q,q=rs++rs':=⟨_,rfl⟩
     rw [← hq] at HT2 HF2 HL2 HO2 ⊢
     clear hT2 hK2 hF2 hL2 hst htold hr1 hr2 htl hq hcpx hcp' hgr hfst
     go_wp2
     go_roundw
     case rel=>exact ⟨e,q,a2,c2,rfl,rfl,hen,HT2,HL2,HO2,HK2,HF2⟩
     case measure=>simp [intOf];omega
    ·have hpn:p=n:=by omega
     subst hpn
     go_wp2
     go_ret
     refine ⟨rs,a',c',rfl,HO.out,HK.out,HF.out,fun _=>⟨?_,?_,?_,?_⟩,fun h=>absurd HOk.out h⟩
     ·have h:=HT.out.can
      rw [HN.out,restR_end,List.append_nil] at h
      exact h
     ·have:=HT.out.tells
      rw [HN.out,List.take_length] at this
      exact this
     ·rw [← HN.out];exact HL.out.1
     ·intro hne
      exact HL.out.2 (by rw [HN.out];intro h;exact hne (List.eq_nil_of_length_eq_zero h))
  ·have hno:¬ okL l:=fun h=>hall h.2
   have hib:=HIb.out
   rw [decide_eq_false hall] at hib
   have HIb2:=Hd hib;have HNo:=Hd hno
   clear hno hib hall HIb
   go_enter Tryz.func147,Tryz.ntmps147
   go_wp2_with fail
   refine HIb2.out.mono ?_
   rintro e w1 ⟨rfl,rfl⟩
   go_wp2
   go_ret
   exact HNone.out HNo.out
end Go.Proofs.YtfmjfgmbjdhogaaGreatDoor
