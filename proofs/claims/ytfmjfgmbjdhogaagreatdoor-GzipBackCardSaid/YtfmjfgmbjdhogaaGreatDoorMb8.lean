import Derived.Test.YtfmjfgmbjdhogaaGreatDoorMb7
set_option linter.unusedVariables false
set_option linter.unusedSimpArgs false
set_option maxRecDepth 20000
set_option maxHeartbeats 8000000
namespace Go.Proofs.YtfmjfgmbjdhogaaGreatDoor
open Go.RowKit
def Inc (X:List Lf):Prop:=X.Pairwise (fun x y=>x.1 < y.1)
theorem ins_nil (G n c a:Nat)(w:World)(ha:a≤n)(hn:n≤1000):
  Calls Tryz.prog 189 #[.slice (some ⟨G,0,none⟩) n c,.int .i64 (a:Int),.int .i64 (a:Int),.func (.func 182) #[] #[]] w fun e w'=>e = .returned (.tuple #[])∧w=w':=by
 have e1:=i64_succ a (a+1) rfl (by omega)
 go_enter Tryz.func189,Tryz.ntmps189
 go_wp2
 go_loopw [8,9] (fun v8 _v9 wr=>v8 = .int .i64 ((a:Int)+1)∧w=wr) (fun _ _ _=>0)
 case atStart=>exact ⟨by first | rfl | (rw [e1];rfl),rfl⟩
 case round=>
  obtain ⟨rfl,rfl⟩:=hrel
  go_wp2
  go_end0
  exact ⟨rfl,rfl⟩
theorem ins_calls (G n c a b:Nat)(p X q:List Lf)(w:World)(h:SrtSt G n c w w (p++(X++q)))(ha:p.length=a)(hb:a+X.length=b)(hX1:1≤X.length)(hI:Inc X)(hn:n≤1000):
  Calls Tryz.prog 189 #[.slice (some ⟨G,0,none⟩) n c,.int .i64 (a:Int),.int .i64 (b:Int),.func (.func 182) #[] #[]] w fun e w'=>e = .returned (.tuple #[])∧∃ S,SrtP S X∧SrtSt G n c w w' (p++(S++q)):=by
 have hlen:=h.len
 have hbn:b≤n:=by simp at hlen;omega
 obtain ⟨x0,X0,hX0⟩:∃ x0 X0,X=[x0]++X0:=by
  cases X with
  | nil=>simp at hX1
  | cons x r=>exact ⟨x,r,rfl⟩
 obtain ⟨a1,ha1⟩:∃ a1,a+1=a1:=⟨_,rfl⟩
 have e1:=i64_succ a a1 ha1 (by omega)
 have hab:a1≤b:=by omega
 have HS0:=Hd h;have HA:=Hd ha;have HB:=Hd hb;have HI:=Hd hI;have HX0:=Hd hX0;have HA1:=Hd ha1
 clear h ha hb hI hX0 hX1 hlen ha1
 go_enter Tryz.func189,Tryz.ntmps189
 go_wp2
 go_loopw [8,9] (fun v8 _v9 wr=>∃ (i:Nat) (Y S Z:List Lf),v8 = .int .i64 (i:Int)∧a1≤i∧i≤b∧Hid (X=Y++Z)∧Hid (a+Y.length=i)∧Hid (SrtP S Y)∧Hid (SrtSt G n c w wr (p++(S++(Z++q))))) (fun v8 _ _=>b - (intOf v8).toNat)
 case atStart=>
  refine ⟨a1,[x0],[x0],X0,by first | rfl | (rw [← HA1.out];rfl),by omega,hab,HX0,Hd (by have:=HA1.out;simpa using this),Hd ⟨List.Perm.refl _,by simp⟩,Hd ?_⟩
  have:=HS0.out
  rw [HX0.out,List.append_assoc] at this
  exact this
 case round=>
  clear e1
  obtain ⟨i,Y,S,Z,rfl,hai,hib,HYZ,HYl,HSP,HS⟩:=hrel
  by_cases hlt:(i:Int) < b
  ·have hz:0 < Z.length:=by
    have:=HB.out;have h2:=HYl.out
    rw [HYZ.out,List.length_append] at this
    omega
   obtain ⟨x,Z2,rfl⟩:∃ x Z2,Z=x :: Z2:=by
    cases Z with
    | nil=>simp at hz
    | cons x r=>exact ⟨x,r,rfl⟩
   have hpl:∀ u∈S,u.1 < x.1:=by
    intro u hu
    have hi:=HI.out
    unfold Inc at hi
    rw [HYZ.out] at hi
    exact (List.pairwise_append.1 hi).2.2 u (HSP.out.perm.mem_iff.1 hu) x List.mem_cons_self
   have HPl:=Hd hpl
   have hSl:=HSP.out.len
   have HSl:=Hd (show a+S.length=i by rw [hSl];exact HYl.out)
   clear hz hpl hSl
   have hstart:SrtSt G n c w wr (p++(S++(x :: ([]++(Z2++q))))):=by simpa using HS.out
   have HSt:=Hd hstart
   clear hstart HS
   go_wp2
   go_loopw [9] (fun v9 wr=>∃ (j:Nat) (S1 S2:List Lf),v9 = .int .i64 (j:Int)∧a≤j∧j≤i∧Hid (S=S1++S2)∧Hid (a+S1.length=j)∧Hid (∀ u∈S2,Bef x u)∧Hid (SrtSt G n c w wr (p++(S1++(x :: (S2++(Z2++q))))))) (fun v9 _=>(intOf v9).toNat - a)
   case atStart=>exact ⟨i,S,[],rfl,by have:=HA1.out;omega,by omega,Hd (by simp),HSl,Hd (fun u hu=>by cases hu),HSt⟩
   case round=>
    clear HSt
    obtain ⟨j,S1,S2,rfl,haj,hji,HSS,HS1,HBf,HS⟩:=hrel
    have hout:(∀ u∈S1,Bef u x)→∀ w',SrtSt G n c w w' (p++(S1++(x :: (S2++(Z2++q)))))→
      X=(Y++[x])++Z2∧a+(Y++[x]).length=i+1∧SrtP (S1++x :: S2) (Y++[x])∧SrtSt G n c w w' (p++((S1++x :: S2)++(Z2++q))):=by
     intro h1 w' hs
     have hp:=HSP.out
     rw [HSS.out] at hp
     refine ⟨by rw [HYZ.out];simp,by rw [List.length_append,List.length_singleton];have:=HYl.out;omega,⟨?_,ins_srt hp.srt h1 HBf.out⟩,by simpa [List.append_assoc] using hs⟩
     exact List.perm_middle.trans ((List.Perm.cons x hp.perm).trans (List.perm_append_singleton x Y).symm)
    have HOut:=Hd hout
    clear hout
    by_cases hja:a < j
    ·obtain ⟨t,ht⟩:∃ t,t+1=j:=⟨j - 1,by omega⟩
     obtain ⟨S3,hS3⟩:=snoc_of S1 (t - a) (by have:=HS1.out;omega)
     obtain ⟨y,hy⟩:∃ y,y=S1.getD (t - a) (0,0):=⟨_,rfl⟩
     rw [← hy] at hS3
     subst hS3
     have hrow:SrtSt G n c w wr ((p++S3)++y :: ([]++x :: (S2++(Z2++q)))):=by
      have:=HS.out
      simpa [List.append_assoc] using this
     have hcl:a+S3.length=t:=by have:=HS1.out;simp at this;omega
     obtain ⟨b5,b6,hst,d0,d1,d2,d3,hfr,_,hdn⟩:=hrow.two (s:=t) (t:=j) (by simp only [List.length_append,HA.out];omega) (by simpa using ht)
     have hcy:=HPl.out y (by rw [HSS.out];simp)
     obtain ⟨k,hk,hless⟩:=cmp_two x y
     have HLs:=Hd hless;have HK:=Hd hk;have HCY:=Hd hcy;have HT:=Hd ht;have HCl:=Hd hcl;have HTw:=Hd (hrow.two (s:=t) (t:=j) (by simp only [List.length_append,HA.out];omega) (by simpa using ht))
     have HRw:=Hd hrow
     clear hdn
     obtain ⟨x1,x2⟩:=x
     obtain ⟨y1,y2⟩:=y
     simp only at HLs
     have b1:=i64_pred j t ht (by omega)
     have b2:(j:Int) < n:=by omega
     have b3:(t:Int) < n:=by omega
     have c5:decide ((a:Int) < (j:Int))=true:=decide_eq_true (by omega)
     have c5n:decide (a < j)=true:=decide_eq_true hja
     have hk0:Kept NoB wr wr:=Kept.refl _ _
     have D0:∀ W:World,Kept NoB wr W→W.cell? ⟨G,j*2,none⟩=some (.int .i64 x1):=fun W hk=>hk.cell d2
     have D1:∀ W:World,Kept NoB wr W→W.cell? ⟨G,j*2+1,none⟩=some (.int .i64 x2):=fun W hk=>hk.cell d3
     have D2:∀ W:World,Kept NoB wr W→W.cell? ⟨G,t*2,none⟩=some (.int .i64 y1):=fun W hk=>hk.cell d0
     have D3:∀ W:World,Kept NoB wr W→W.cell? ⟨G,t*2+1,none⟩=some (.int .i64 y2):=fun W hk=>hk.cell d1
     clear hless hk hy hcy hst d0 d1 d2 d3 hfr hrow hcl ht HS
     by_cases hc:x2 < y2
     ·have hd:decide (k < 0)=true:=by rw [HK.out];exact decide_eq_true hc
      go_upto_region 4 with fail
      go_region_held3 (fun W=>Kept NoB wr W) (first | assumption | exact Kept.drew (Kept.refl _ _) | exact Kept.drew (by assumption) | exact Kept.trans (by assumption) hkn)
       (first
        | (go_at_call 182;((with_reducible refine (HLs.out _).mono ?_);rintro e wn ⟨rfl,hkn⟩)))
      have hkw:Kept NoB wr wn:=by assumption
      have hrn:=HRw.out.then hkw (fun _ h=>h)
      obtain ⟨_,_,hst,d0,d1,d2,d3,hfr,_,hdn⟩:=hrn.two (s:=t) (t:=j) (by simp only [List.length_append,HA.out];have:=HCl.out;omega) (by simpa using HT.out)
      have HF:=Hd hdn
      have f0:=hfr (j*2)
      have f1:=hfr (j*2+1)
      have f2:=hfr (t*2)
      have f3:=hfr (t*2+1)
      have hst2:¬ j=t:=by omega
      clear hkw hkn D0 D1 D2 D3 hk0 hrn hdn hfr hst c5 c5n hd HTw HRw
      go_upto_region 6 with fail
      go_region
      have HF2:Hid (SrtSt G n c w _ _):=Hd (HF.out.then (Kept.drew (Kept.refl NoB _)) (fun _ h=>h))
      clear HF d0 d1 d2 d3 f0 f1 f2 f3
      go_wp2
      go_roundw
      case rel=>
       refine ⟨t,S3,(y1,y2) :: S2,by go_num,by have:=HCl.out;omega,by have:=HT.out;omega,Hd (by rw [HSS.out];simp),HCl,Hd ?_,Hd ?_⟩
       ·intro u hu
        rcases List.mem_cons.1 hu with rfl | hu
        ·exact .inl hc
        ·exact HBf.out u hu
       ·have:=HF2.out
        simpa [List.append_assoc] using this
      case measure=>have:=HT.out;simp [intOf];omega
     ·have hd:decide (k < 0)=false:=by rw [HK.out];exact decide_eq_false hc
      go_upto_region 4 with fail
      go_region_held3 (fun W=>Kept NoB wr W) (first | assumption | exact Kept.drew (Kept.refl _ _) | exact Kept.drew (by assumption) | exact Kept.trans (by assumption) hkn)
       (first
        | (go_at_call 182;((with_reducible refine (HLs.out _).mono ?_);rintro e wn ⟨rfl,hkn⟩)))
      have hkw:Kept NoB wr wn:=by assumption
      have hrn:=HRw.out.then hkw (fun _ h=>h)
      have hb1:∀ u∈S3++[(y1,y2)],Bef u (x1,x2):=by
       have hsr:=HSP.out.srt
       rw [HSS.out] at hsr
       have hyx:Bef (y1,y2) (x1,x2):=by have:=HCY.out;unfold Bef;simp only at this ⊢;omega
       have h3:=(List.pairwise_append.1 (List.pairwise_append.1 hsr).1).2.2
       intro u hu
       rcases List.mem_append.1 hu with hu | hu
       ·exact (h3 u hu (y1,y2) (List.mem_singleton.2 rfl)).trans hyx
       ·rw [List.mem_singleton.1 hu];exact hyx
      have ho:=HOut.out hb1 wn (by simpa [List.append_assoc] using hrn)
      have HO:=Hd ho
      have hnd:¬ k < 0:=of_decide_eq_false hd
      clear hkw hkn D0 D1 D2 D3 hk0 hrn ho hb1 HTw HRw
      go_wp2
      go_roundw
      case rel=>exact ⟨i+1,_,_,_,by go_num,by omega,by omega,Hd HO.out.1,Hd HO.out.2.1,Hd HO.out.2.2.1,Hd HO.out.2.2.2⟩
      case measure=>simp [intOf];omega
    ·have hS1:S1=[]:=List.eq_nil_of_length_eq_zero (by have:=HS1.out;omega)
     have hja2:j=a:=by omega
     have ho:=HOut.out (by rw [hS1];intro u hu;cases hu) wr HS.out
     have HO:=Hd ho
     clear ho hS1 HS
     subst hja2
     have c5:decide ((j:Int) < (j:Int))=false:=decide_eq_false (by omega)
     have c5n:decide (j < j)=false:=decide_eq_false (by omega)
     go_upto_region 4 with fail
     go_quiet (fail)
     have HO2:=Hd (HO.out.2.2.2.then ((Kept.refl NoB wr).drewN nq) (fun _ h=>h))
     go_wp2
     go_roundw
     case rel=>exact ⟨i+1,_,_,_,by go_num,by omega,by omega,Hd HO.out.1,Hd HO.out.2.1,Hd HO.out.2.2.1,HO2⟩
     case measure=>simp [intOf];omega
  ·have hib2:i=b:=by omega
   subst hib2
   have hz:Z=[]:=by
    have:=HB.out;have h2:=HYl.out
    rw [HYZ.out,List.length_append] at this
    exact List.eq_nil_of_length_eq_zero (by omega)
   subst hz
   have hxy:X=Y:=by rw [HYZ.out];simp
   go_wp2
   go_end0
   exact ⟨rfl,S,HSP.out,by simpa using HS.out⟩
inductive Full (K:Nat):List Lf→List Lf→Prop
 | nil:Full K [] []
 | snoc {S X T B:List Lf}:Full K S X→B.length=K→SrtP T B→Full K (S++T) (X++B)
inductive Bl (K:Nat):List Lf→List Lf→Prop
 | last {S X:List Lf}:X.length < K→SrtP S X→Bl K S X
 | cons {S X T B:List Lf}:B.length=K→SrtP T B→Bl K S X→Bl K (T++S) (B++X)
theorem Full.then {K:Nat}{S X S' X':List Lf}(h:Full K S X)(k:Bl K S' X'):Bl K (S++S') (X++X'):=by
 induction h generalizing S' X' with
 | nil=>exact k
 | snoc h hl hs ih=>
  rw [List.append_assoc,List.append_assoc]
  exact ih (Bl.cons hl hs k)
theorem Full.len {K:Nat}{S X:List Lf}(h:Full K S X):S.length=X.length:=by
 induction h with
 | nil=>rfl
 | snoc h hl hs ih=>rw [List.length_append,List.length_append,ih,hs.len]
theorem Bl.len {K:Nat}{S X:List Lf}(h:Bl K S X):S.length=X.length:=by
 induction h with
 | last h hs=>exact hs.len
 | cons hl hs h ih=>rw [List.length_append,List.length_append,ih,hs.len]
theorem Bl.one {K:Nat}{S X:List Lf}(h:Bl K S X)(hl:X.length≤K):SrtP S X:=by
 cases h with
 | last h hs=>exact hs
 | @cons S X T B h1 hs h=>
  have:X.length=0:=by rw [List.length_append] at hl;omega
  have hx:=List.eq_nil_of_length_eq_zero this
  have h2:=h.len
  rw [this] at h2
  have hs2:=List.eq_nil_of_length_eq_zero h2
  rw [hx,hs2,List.append_nil,List.append_nil]
  exact hs
theorem Bl.first {K:Nat}{S X:List Lf}(h:Bl K S X)(hl:K≤X.length):∃ T B S' X',S=T++S'∧X=B++X'∧B.length=K∧SrtP T B∧Bl K S' X':=by
 cases h with
 | last h hs=>omega
 | @cons S X T B h1 hs h=>exact ⟨T,B,S,X,rfl,rfl,h1,hs,h⟩
theorem inc_cross {X A B C:List Lf}{P:List Lf}(h:Inc X)(e:X=P++(A++(B++C))){S T:List Lf}(hs:SrtP S A)(ht:SrtP T B):Cross S T:=by
 unfold Inc at h
 rw [e] at h
 have h2:=(List.pairwise_append.1 (List.pairwise_append.1 h).2.1).2.2
 intro x hx y hy
 exact h2 x (hs.perm.mem_iff.1 hx) y (List.mem_append_left _ (ht.perm.mem_iff.1 hy))
theorem inc_part {X A B P:List Lf}(h:Inc X)(e:X=P++(A++B)):Inc A:=by
 unfold Inc at h
 rw [e] at h
 exact (List.pairwise_append.1 (List.pairwise_append.1 h).2.1).1
theorem ins_any (G n c a b:Nat)(p X q:List Lf)(w:World)(h:SrtSt G n c w w (p++(X++q)))(ha:p.length=a)(hb:a+X.length=b)(hI:Inc X)(hn:n≤1000):
  Calls Tryz.prog 189 #[.slice (some ⟨G,0,none⟩) n c,.int .i64 (a:Int),.int .i64 (b:Int),.func (.func 182) #[] #[]] w fun e w'=>e = .returned (.tuple #[])∧∃ S,SrtP S X∧SrtSt G n c w w' (p++(S++q)):=by
 by_cases hx:1≤X.length
 ·exact ins_calls G n c a b p X q w h ha hb hx hI hn
 ·have hx0:=List.eq_nil_of_length_eq_zero (show X.length=0 by omega)
  subst hx0
  have hab:b=a:=by simpa using hb.symm
  subst hab
  have hl:=h.len
  refine (ins_nil G n c b w (by simp at hl;omega) hn).mono ?_
  rintro e w' ⟨rfl,rfl⟩
  exact ⟨rfl,[],⟨List.Perm.refl _,List.Pairwise.nil⟩,h⟩
theorem stable_calls (G n c:Nat)(X:List Lf)(w:World)(h:SrtSt G n c w w X)(hI:Inc X)(hn:n≤1000):
  Calls Tryz.prog 186 #[.slice (some ⟨G,0,none⟩) n c,.int .i64 (n:Int),.func (.func 182) #[] #[]] w fun e w'=>e = .returned (.tuple #[])∧∃ S,SrtP S X∧SrtSt G n c w w' S:=by
 have HS0:=Hd h;have HI:=Hd hI;have HL:=Hd h.len
 clear h hI
 go_enter Tryz.func186,Tryz.ntmps186
 go_wp2
 go_loopw [7,8] (fun v7 v8 wr=>∃ (a b:Nat) (X1 X2 S1:List Lf),v7 = .int .i64 (a:Int)∧v8 = .int .i64 (b:Int)∧a+20=b∧a≤n∧Hid (X=X1++X2)∧Hid (X1.length=a)∧Hid (Full 20 S1 X1)∧Hid (SrtSt G n c w wr (S1++X2))) (fun _ v8 _=>n+20 - (intOf v8).toNat)
 case atStart=>exact ⟨0,20,[],X,[],rfl,rfl,rfl,by omega,Hd rfl,Hd rfl,Hd .nil,HS0⟩
 case round=>
  obtain ⟨a,b,X1,X2,S1,rfl,rfl,hab,han,HX,HX1,HF,HS⟩:=hrel
  have hx2:X2.length+a=n:=by have:=HL.out;rw [HX.out,List.length_append] at this;have:=HX1.out;omega
  by_cases hlt:(b:Int)≤n
  ·obtain ⟨B,Z,rfl,hB,hZ⟩:=split_at X2 20 X2.length rfl (by omega)
   have hr:=ins_calls G n c a b S1 B Z wr HS.out.start (by rw [HF.out.len];exact HX1.out) (by omega) (by omega) (inc_part HI.out HX.out) hn
   have HR:=Hd hr
   obtain ⟨b2,hb2⟩:∃ b2,b+20=b2:=⟨_,rfl⟩
   have e1:IntKind.i64.wrap ((b:Int)+20)=(b2:Int):=by rw [IntWalk.i64_in _ (by omega)];omega
   have HBl:=Hd hB
   clear hr hB hZ hx2
   go_wp2_with fail
   refine HR.out.mono ?_
   rintro e w1 ⟨rfl,S,hsp,hs⟩
   have HSp:=Hd hsp;have HSn:=Hd hs
   clear hsp hs
   go_wp2
   go_roundw
   case rel=>
    refine ⟨b,b2,X1++B,Z,S1++S,rfl,by go_num,hb2,by omega,Hd (by rw [HX.out];simp),Hd (by rw [List.length_append,HX1.out,HBl.out];exact hab),Hd (Full.snoc HF.out HBl.out HSp.out),Hd ?_⟩
    have:=HS.out.from HSn.out
    simpa [List.append_assoc] using this
   case measure=>simp [intOf];omega
  ·have hr:=ins_any G n c a n S1 X2 [] wr (by simpa using HS.out.start) (by rw [HF.out.len];exact HX1.out) (by omega) (inc_part HI.out (show X=X1++(X2++[]) by simpa using HX.out)) hn
   have HR:=Hd hr
   have HX2:=Hd hx2
   clear hr hx2
   go_wp2_with fail
   refine HR.out.mono ?_
   rintro e w1 ⟨rfl,S2,hsp,hs⟩
   have hbl:Bl 20 (S1++S2) X:=by
    rw [HX.out]
    exact HF.out.then (.last (by have:=HX2.out;omega) hsp)
   have hs1:SrtSt G n c w w1 (S1++S2):=by
    have:=HS.out.from hs
    simpa using this
   have HBl:=Hd hbl;have HS1:=Hd hs1
   clear hsp hs hbl hs1 HX HX1 HF HS HR HX2 HS0 hab han hlt
   go_wp2
   go_loopw [6,7,8,9] (fun v6 _v7 _v8 _v9 wr=>∃ (K:Nat) (S:List Lf),v6 = .int .i64 (K:Int)∧20≤K∧K≤2*n+20∧Hid (Bl K S X)∧Hid (SrtSt G n c w wr S)) (fun v6 _ _ _ _=>n - (intOf v6).toNat)
   case atStart=>exact ⟨20,_,rfl,by omega,by omega,HBl,HS1⟩
   case round=>
    clear HBl HS1
    obtain ⟨K,S,rfl,hK,hKn,HBl,HS⟩:=hrel
    by_cases hlt:(K:Int) < n
    ·obtain ⟨K2,hK2⟩:∃ K2,K2=2*K:=⟨_,rfl⟩
     have e1:IntKind.i64.wrap (2*(K:Int))=(K2:Int):=by rw [IntWalk.i64_in _ (by omega)];omega
     have HK2:=Hd hK2
     clear hK2
     go_wp2
     go_loopw [7,8] (fun v7 v8 wr=>∃ (a b:Nat) (X1 X2 S1 S2:List Lf),v7 = .int .i64 (a:Int)∧v8 = .int .i64 (b:Int)∧a+K2=b∧a≤n∧Hid (X=X1++X2)∧Hid (X1.length=a)∧Hid (Full K2 S1 X1)∧Hid (Bl K S2 X2)∧Hid (SrtSt G n c w wr (S1++S2))) (fun _ v8 _=>n+K2 - (intOf v8).toNat)
     case atStart=>exact ⟨0,K2,[],X,[],S,rfl,rfl,by omega,by omega,Hd rfl,Hd rfl,Hd .nil,HBl,HS⟩
     case round=>
      clear e1
      obtain ⟨a,b,X1,X2,S1,S2,rfl,rfl,hab,han,HX,HX1,HF,HB,HS⟩:=hrel
      have hx2:X2.length+a=n:=by have:=HL.out;rw [HX.out,List.length_append] at this;have:=HX1.out;omega
      by_cases hlt2:(b:Int)≤n
      ·obtain ⟨T1,B1,S3,X3,rfl,rfl,hb1,hs1,hbl1⟩:=HB.out.first (by have:=HK2.out;omega)
       rw [List.length_append,hb1] at hx2
       obtain ⟨T2,B2,S4,X4,rfl,rfl,hb2,hs2,hbl2⟩:=hbl1.first (by have:=HK2.out;omega)
       rw [List.length_append,hb2] at hx2
       have hcr:Cross T1 T2:=inc_cross HI.out HX.out hs1 hs2
       obtain ⟨m,hm⟩:∃ m,a+K=m:=⟨_,rfl⟩
       have hr:=sym_calls (b - a) G n c a m b S1 T1 T2 S4 wr (Nat.le_refl _) (by simpa [List.append_assoc] using HS.out.start) (by rw [HF.out.len];exact HX1.out) (by rw [hs1.len,hb1];exact hm) (by rw [hs2.len,hb2];have:=HK2.out;omega) (by rw [hs1.len,hb1];omega) (by rw [hs2.len,hb2];omega) hs1.srt hs2.srt hcr hn
       have HR:=Hd hr
       have e2:=i64_add a K m hm (by omega)
       obtain ⟨b2,hb2'⟩:∃ b2,b+K2=b2:=⟨_,rfl⟩
       have e3:=i64_add b K2 b2 hb2' (by have:=HK2.out;omega)
       have e4:IntKind.i64.wrap (2*(K:Int))=(K2:Int):=by rw [IntWalk.i64_in _ (by omega)];have:=HK2.out;omega
       have HB1:=Hd hb1;have HB2:=Hd hb2;have HP1:=Hd hs1;have HP2:=Hd hs2;have HBl2:=Hd hbl2;have HX2:=Hd hx2
       have hbn:b≤n:=by omega
       clear hr hcr hb1 hb2 hs1 hs2 hbl1 hbl2 hx2 hm
       go_wp2_with fail
       refine HR.out.mono ?_
       rintro e w2 ⟨rfl,T,hsp,hs⟩
       have HSp:=Hd hsp;have HSn:=Hd hs
       clear hsp hs
       go_wp2
       go_roundw
       case rel=>
        refine ⟨b,b2,X1++(B1++B2),X4,S1++T,S4,rfl,by go_num,hb2',hbn,Hd (by rw [HX.out];simp [List.append_assoc]),Hd (by simp only [List.length_append,HX1.out,HB1.out,HB2.out];have:=HK2.out;omega),Hd (Full.snoc HF.out (by rw [List.length_append,HB1.out,HB2.out];have:=HK2.out;omega) ⟨HSp.out.perm.trans (HP1.out.perm.append HP2.out.perm),HSp.out.srt⟩),HBl2,Hd ?_⟩
        have:=HS.out.from HSn.out
        simpa [List.append_assoc] using this
       case measure=>have:=HK2.out;simp [intOf];omega
      ·have hend:∀ T w',SrtP T X2→SrtSt G n c w w' (S1++T)→Bl K2 (S1++T) X∧SrtSt G n c w w' (S1++T):=by
        intro T w' h1 h2
        refine ⟨?_,h2⟩
        rw [HX.out]
        exact HF.out.then (.last (by omega) h1)
       have HEnd:=Hd hend
       have e4:IntKind.i64.wrap ((K:Int)*2)=(K2:Int):=by rw [IntWalk.i64_in _ (by omega)];have:=HK2.out;omega
       obtain ⟨m,hm⟩:∃ m,a+K=m:=⟨_,rfl⟩
       have e2:=i64_add a K m hm (by omega)
       have HX2:=Hd hx2;have HM:=Hd hm
       clear hend hx2 hm
       by_cases hmn:(m:Int) < n
       ·obtain ⟨T1,B1,S3,X3,rfl,rfl,hb1,hs1,hbl1⟩:=HB.out.first (by have:=HX2.out;have:=HM.out;omega)
        have hx2:=HX2.out
        rw [List.length_append,hb1] at hx2
        have hs2:=hbl1.one (by have:=HK2.out;omega)
        have hcr:Cross T1 S3:=inc_cross HI.out (show _=_++(B1++(X3++[])) by simpa using HX.out) hs1 hs2
        have hr:=sym_calls (n - a) G n c a m n S1 T1 S3 [] wr (Nat.le_refl _) (by simpa [List.append_assoc] using HS.out.start) (by rw [HF.out.len];exact HX1.out) (by rw [hs1.len,hb1];exact HM.out) (by rw [hs2.len];have:=HM.out;omega) (by rw [hs1.len,hb1];omega) (by rw [hs2.len];have:=HM.out;omega) hs1.srt hs2.srt hcr hn
        have HR:=Hd hr;have HP1:=Hd hs1;have HP2:=Hd hs2
        clear hr hcr hb1 hs1 hbl1 hx2 hs2
        go_wp2_with fail
        refine HR.out.mono ?_
        rintro e w2 ⟨rfl,T,hsp,hs⟩
        have ho:=HEnd.out T w2 ⟨hsp.perm.trans (HP1.out.perm.append HP2.out.perm),hsp.srt⟩ (by simpa using HS.out.from hs)
        have HO:=Hd ho
        clear hsp hs ho
        go_wp2
        go_roundw
        case rel=>exact ⟨K2,_,by go_num,by have:=HK2.out;omega,by have:=HK2.out;omega,Hd HO.out.1,Hd HO.out.2⟩
        case measure=>have:=HK2.out;simp [intOf];omega
       ·have hs2:=HB.out.one (by have:=HX2.out;have:=HM.out;omega)
        have ho:=HEnd.out S2 wr hs2 HS.out
        have HO:=Hd ho
        clear hs2 ho
        go_wp2
        go_roundw
        case rel=>exact ⟨K2,_,by go_num,by have:=HK2.out;omega,by have:=HK2.out;omega,Hd HO.out.1,Hd HO.out.2⟩
        case measure=>have:=HK2.out;simp [intOf];omega
    ·have hone:=HBl.out.one (by have:=HL.out;omega)
     have HOne:=Hd hone
     clear hone
     go_wp2
     go_end0
     exact ⟨rfl,S,HOne.out,HS.out⟩
theorem infoI:(Tryz.prog.info? 3).map (fun i=>(i.zero,i.size,i.bytes))=some (some (.int .i64 0),1,8):=by kernel_rfl
theorem leaves_ok:∀ (ws:List Int) (i:Nat),Small 1000000 ws→∀ p∈leavesL i ws,(0≤p.2∧p.2≤1048576)∧∃ q:Nat,p.1=(q:Int)∧q < i+ws.length
 | [],i,_,p,hp=>by cases hp
 | z :: r,i,h,p,hp=>by
  have hr:Small 1000000 r:=fun y hy=>h y (List.mem_cons_of_mem _ hy)
  have hz:=h z List.mem_cons_self
  unfold leavesL at hp
  split at hp
  ·rcases List.mem_cons.1 hp with rfl | hp
   ·exact ⟨⟨hz.1,by have:=hz.2;simp only;omega⟩,i,rfl,by simp⟩
   ·obtain ⟨h1,q,h2,h3⟩:=leaves_ok r (i+1) hr p hp
    exact ⟨h1,q,h2,by simp only [List.length_cons];omega⟩
  ·obtain ⟨h1,q,h2,h3⟩:=leaves_ok r (i+1) hr p hp
   exact ⟨h1,q,h2,by simp only [List.length_cons];omega⟩
theorem leaves_len:∀ (ws:List Int) (i:Nat),(leavesL i ws).length≤ws.length
 | [],i=>by simp [leavesL]
 | z :: r,i=>by
  have:=leaves_len r (i+1)
  unfold leavesL
  split
  ·simp only [List.length_cons];omega
  ·simp only [List.length_cons];omega
def placesN (lv:List (Int × Int)):List Nat:=lv.map fun p=>p.1.toNat
def LensP (w:World)(zs:List Int)(e:Ending)(w':World):Prop:=
 ∃ a c,e = .returned (.tuple #[.slice a zs.length c,.int .i64 0])∧w'.ownsRow 0 3 1 (.slice a zs.length c) zs.length (zs.map (.int .i64))∧Kept NoB w w'
theorem addL_len (ls:List Int)(ps:List Nat):∀ (i k:Nat) (zs:List Int),(addL ls ps i k zs).length=zs.length
 | 0,k,zs=>rfl
 | i+1,k,zs=>by unfold addL;rw [addL_len ls ps i,bump_len]
theorem leaves_ge:∀ (ws:List Int) (i:Nat),∀ p∈leavesL i ws,(i:Int)≤p.1
 | [],i,p,hp=>by cases hp
 | z :: r,i,p,hp=>by
  unfold leavesL at hp
  split at hp
  ·rcases List.mem_cons.1 hp with rfl | hp
   ·exact Int.le_refl _
   ·have:=leaves_ge r (i+1) p hp;omega
  ·have:=leaves_ge r (i+1) p hp;omega
theorem inc_leaves:∀ (ws:List Int) (i:Nat),Inc (leavesL i ws)
 | [],i=>List.Pairwise.nil
 | z :: r,i=>by
  unfold leavesL
  split
  ·refine List.pairwise_cons.2 ⟨fun p hp=>?_,inc_leaves r (i+1)⟩
   have:=leaves_ge r (i+1) p hp
   simp only;omega
  ·exact inc_leaves r (i+1)
theorem sort_calls (G n c:Nat)(X:List Lf)(w:World)(h:SrtSt G n c w w X)(hI:Inc X)(hn:n≤1000):
  Calls Tryz.prog 181 #[.slice (some ⟨G,0,none⟩) n c,.func (.func 182) #[] #[]] w fun e w'=>e = .returned (.tuple #[])∧∃ S,SrtP S X∧SrtSt G n c w w' S:=by
 have HC:=Hd (stable_calls G n c X w h hI hn)
 go_enter Tryz.func181,Tryz.ntmps181
 go_wp2_with fail
 refine HC.out.mono ?_
 rintro e w1 ⟨rfl,S,h1,h2⟩
 have HS1:=Hd h1;have HS2:=Hd h2
 clear h1 h2
 go_wp2
 go_end0
 exact ⟨rfl,S,HS1.out,HS2.out⟩
theorem sort_lf {w0 w:World}{a:Option Addr}{c:Nat}{rs:List Lf}(h:LfSt w0 w a c rs)(hI:Inc rs)(hn:rs.length≤1000):
  Calls Tryz.prog 181 #[.slice a rs.length c,.func (.func 182) #[] #[]] w fun e w'=>e = .returned (.tuple #[])∧∃ S,SrtP S rs∧LfSt w0 w' a c S:=by
 by_cases h0:0 < rs.length
 ·have ho:=h.own
  unfold OwnL at ho
  obtain ⟨g,rfl⟩:=own_some ho h0
  have hg:=h.fresh g rfl
  refine (sort_calls g rs.length c rs w ⟨rfl,ho,Kept.refl _ _⟩ hI hn).mono ?_
  rintro e w' ⟨rfl,S,h1,h2⟩
  refine ⟨rfl,S,h1,?_,h.kept.trans' h2.kept (fun i hi e=>by unfold OneB at e;omega),fun k hk=>?_⟩
  ·have:=h2.own
   unfold OwnL
   rw [h1.len]
   exact this
  ·rw [h1.len] at hk
   exact h.fresh k hk
 ·have hn0:=List.eq_nil_of_length_eq_zero (show rs.length=0 by omega)
  subst hn0
  refine (sort_up a c w.heap.size [] w (fun i hi=>by simp at hi) (fun i hi=>by simp at hi) (by simp)).mono ?_
  rintro e w' ⟨rfl,hk⟩
  exact ⟨rfl,[],⟨List.Perm.refl _,List.Pairwise.nil⟩,hk.row h.own (fun _ _ h=>h),h.kept.trans hk,h.fresh⟩
theorem leaves_any (a:Option Addr)(c B:Nat)(ws:List Int)(w:World)(hr:RdI w B a ws)(hb:Small 1000000 ws)(hl:ws.length≤320):
  Calls Tryz.prog 167 #[.slice a ws.length c] w fun e w'=>∃ a' c',∃ S,e = .returned (.tuple #[.slice a' S.length c',.bool true])∧SrtP S (leavesL 0 ws)∧LfSt w w' a' c' S:=by
 have HR:=Hd hr;have HB:=Hd hb;have HI:=Hd (inc_leaves ws 0)
 obtain ⟨i0,hi,hz0,hz1,hz2⟩:=info_parts infoLf
 obtain ⟨R,hR⟩:∃ R,R=leavesL 0 ws:=⟨_,rfl⟩
 rw [← hR] at HI ⊢
 have HRe:=Hd hR
 obtain ⟨n,hn⟩:∃ n,n=ws.length:=⟨_,rfl⟩
 have HN:=Hd hn
 rw [← hn] at hl ⊢
 clear hr hb hR hn
 go_enter Tryz.func167,Tryz.ntmps167
 go_wp2
 go_loopw [9,4,5,6] (fun v9 v4 _v5 _v6 wr=>∃ (j:Nat) (rs:List (Int × Int)) (a4:Option Addr) (l4 c4:Nat),v9 = .int .i64 (j:Int)∧v4 = .slice a4 l4 c4∧j≤n∧l4≤j∧Hid (l4=rs.length)∧Hid (LfSt w wr a4 c4 rs)∧Hid (rs++leavesL j (ws.drop j)=R)) (fun v9 _ _ _ _=>n - (intOf v9).toNat)
 case atStart=>exact ⟨0,[],none,0,0,rfl,rfl,by omega,by omega,Hd rfl,Hd ⟨World.ownsRow_nil _ _ _ _,Kept.refl _ _,fun k hk=>by simp [Value.ownBlock] at hk⟩,Hd (by rw [List.drop_zero,List.nil_append];exact HRe.out.symm)⟩
 case round=>
  obtain ⟨j,rs,a4,l4,c4,rfl,rfl,hj,hl4,HL4,HS,HX⟩:=hrel
  by_cases hlt:(j:Int) < n
  ·obtain ⟨g,off,rfl,_,hc0⟩:=HR.out j (by have:=HN.out;omega)
   have hc:=HS.out.kept.cell hc0
   have hbz:=HB.out.getD j (by have:=HN.out;omega)
   have hx:=HX.out
   rw [leavesL_step ws j (by have:=HN.out;omega)] at hx
   obtain ⟨z,hz⟩:∃ z,z=ws.getD j 0:=⟨_,rfl⟩
   rw [← hz] at hc hbz hx
   clear hz hc0
   have h1:¬ z < 0:=by omega
   have h2:¬ 1000000 < z:=by omega
   by_cases hz0':0 < z
   ·rw [if_pos hz0'] at hx
    have HX2:=Hd hx
    have hrow:=HS.out.own
    unfold OwnL at hrow
    rw [← HL4.out] at hrow
    have HRow:=Hd (hrow.alloc (.cells #[.int .i64 (j:Int),.int .i64 z] 226));have HNw:=Hd (news_lf wr (j:Int) z)
    clear hrow hx
    go_wp2_with (at_builtin;refine wpList_app _ rfl _ _ 222 rfl 226 i0 (.agg #[.int .i64 0,.int .i64 0]) 2 16 Tryz.underlying222 hi hz0 hz1 hz2 rfl (by decide) _ l4 (lcells rs) rfl HRow.out ⟨wr.heap.size,0,none⟩ 1 1 [.int .i64 (j:Int),.int .i64 z] rfl rfl HNw.out ?d2 ?d3 ?d4 ?_)
    case d2=>first | rfl | (intro u hu;simp at hu;rcases hu with rfl | rfl <;> rfl) | (simp [Value.oneCell'])
    case d3=>unfold maxLen;omega
    case d4=>omega
    intro v' w2 hown' hgrow hnew
    obtain ⟨a2,c2,rfl⟩:=own_shape2 hown'
    have HSt:=Hd (HS.out.app HL4.out hown' hgrow hnew)
    clear hown' hgrow hnew
    go_wp2
    go_roundw
    case rel=>exact ⟨j+1,rs++[((j:Int),z)],a2,l4+1,c2,by go_num,rfl,by omega,by omega,Hd (by rw [HL4.out];simp),HSt,Hd (by rw [List.append_assoc];exact HX2.out)⟩
    case measure=>simp [intOf];omega
   ·rw [if_neg hz0'] at hx
    have HX2:=Hd hx
    clear hx
    go_wp2
    go_roundw
    case rel=>exact ⟨j+1,rs,a4,l4,c4,by go_num,rfl,by omega,by omega,HL4,HS,HX2⟩
    case measure=>simp [intOf];omega
  ·have hx:=HX.out
   rw [leavesL_end ws j (by have:=HN.out;omega),List.append_nil] at hx
   subst hx
   have hso:=sort_lf HS.out HI.out (by have:=HL4.out;omega)
   rw [← HL4.out] at hso
   have HSo:=Hd hso
   clear hso
   go_wp2_with fail
   refine HSo.out.mono ?_
   rintro e w2 ⟨rfl,S,hsp,hst⟩
   have HSp:=Hd hsp;have HSt:=Hd hst
   clear hsp hst
   go_wp2
   go_ret2
   exact ⟨a4,c4,S,by rw [HSp.out.len,← HL4.out];rfl,HSp.out,HSt.out⟩
def lensOf (lv:List Lf)(n limit:Nat):List Int:=
 if lv.length=0 then List.replicate n 0 else if lv.length=1 then (List.replicate n 0).set (lv.getD 0 (0,0)).1.toNat 1 else addL (lv.map (·.2)) (placesN lv) limit (2*lv.length - 2) (List.replicate n 0)
theorem lens_many (a:Option Addr)(c B:Nat)(ws:List Int)(limit M:Nat)(w:World)(hr:RdI w B a ws)(hb:Small 1000000 ws)(hl:ws.length≤320)(hlim:1≤limit∧limit≤15)
  (hM:wrap64 ((2:Int) ^ limit)=(M:Int)) (hM2:M=2 ^ limit) (h:(leavesL 0 ws).length≤M) (h2:2≤(leavesL 0 ws).length):
  Calls Tryz.prog 144 #[.slice a ws.length c,.int .i64 (limit:Int)] w fun e w'=>∃ lv,SrtP lv (leavesL 0 ws)∧LensP w (lensOf lv ws.length limit) e w':=by
 have HV:=Hd (leaves_any a c B ws w hr hb hl)
 have hok:=leaves_ok ws 0 hb
 have hlen:=leaves_len ws 0
 obtain ⟨lv0,hlv0⟩:∃ lv0,lv0=leavesL 0 ws:=⟨_,rfl⟩
 rw [← hlv0] at HV hok h h2 hlen ⊢
 obtain ⟨n,hn⟩:∃ n,n=ws.length:=⟨_,rfl⟩
 rw [← hn] at hl HV hlen hok ⊢
 have HOk0:=Hd hok
 obtain ⟨L,hL⟩:∃ L,L=lv0.length:=⟨_,rfl⟩
 rw [← hL] at h h2 hlen
 have HL0:=Hd hL
 obtain ⟨h3,h4⟩:=hlim
 have HM2:=Hd hM2
 obtain ⟨i0,hi,hz0,hz1,hz2⟩:=info_parts infoI
 have q1:((L:Int) == 0)=false:=by simp;omega
 have q2:((L:Int) == 1)=false:=by simp;omega
 have q3:¬ L=0:=by omega
 have q4:¬ L=1:=by omega
 clear hr hb hn hL hok hlv0 hM2
 go_enter Tryz.func144,Tryz.ntmps144
 go_wp2_with fail
 refine HV.out.mono ?_
 rintro e w1 ⟨a1,c1,lv,rfl,hsp,hst⟩
 have hLl:L=lv.length:=by rw [HL0.out,hsp.len]
 have hok2:∀ p∈lv,(0≤p.2∧p.2≤1048576)∧∃ q:Nat,p.1=(q:Int)∧q < 0+n:=fun p hp=>HOk0.out p (hsp.perm.mem_iff.1 hp)
 rw [← hLl]
 have HL:=Hd hLl;have HOk:=Hd hok2;have HSp:=Hd hsp
 have HS:=Hd hst
 obtain ⟨Z,hZ⟩:∃ Z,Z=lensOf lv n limit:=⟨_,rfl⟩
 have hmn:lensOf lv n limit=addL (lv.map (·.2)) (placesN lv) limit (2*L - 2) (List.replicate n 0):=by
  unfold lensOf
  rw [if_neg (by omega),if_neg (by omega),hLl]
 rw [← hZ] at hmn
 have HMn:=Hd hmn;have HZe:=Hd hZ
 clear hst HV hLl hok2 hsp hmn hZ
 go_wp2_with (at_make;refine wpList_make_full _ rfl _ _ _ rfl 0 3 i0 (.int .i64 0) 1 Tryz.underlying30 hi hz0 hz1 .i64 .i64 _ _ n rfl rfl rfl rfl (by rw [hz2];omega) (by unfold maxLen;omega) (Nat.zero_le _) ?_)
 intro w2 hown hgrow
 rw [toList_madeCells_one] at hown
 have hk12:Kept NoB w1 w2:=(Kept.refl _ _).grown hgrow (fun k _ e=>by cases e)
 have hz:w2.ownsRow 0 3 1 (.slice (some ⟨w1.heap.size,0,none⟩) (List.replicate n (0:Int)).length (List.replicate n (0:Int)).length) (List.replicate n (0:Int)).length ((List.replicate n (0:Int)).map (.int .i64)):=by
  rw [List.length_replicate,List.map_replicate];exact hown
 have hps:lv.map (·.1)=(placesN lv).map (fun p:Nat=>(p:Int)):=by
  unfold placesN
  rw [List.map_map]
  apply List.map_congr_left
  intro p hp
  obtain ⟨_,q,hq,_⟩:=HOk.out p hp
  simp only [Function.comp]
  omega
 have hcap:=own_cap2 HS.out.own
 have hadd:=addL_calls a1 c1 w1.heap.size w1.heap.size (List.replicate n 0) lv (lv.map (·.2)) (placesN lv) limit w2 rfl hps hz (HS.out.own.reads.kept hk12) (Nat.le_refl _) (fun p hp=>(HOk.out p hp).1)
  (by rw [← HL.out];exact h2) (by rw [← HL.out];omega) (by rw [← HL.out,← HM2.out];exact h) ⟨h3,h4⟩ hcap
  (fun p hp=>by
   obtain ⟨x,hx,rfl⟩:=List.mem_map.1 hp
   obtain ⟨_,q,hq,hq2⟩:=HOk.out x hx
   rw [List.length_replicate]
   omega)
  (fun z hz=>by have:=List.eq_of_mem_replicate hz;omega)
 rw [← HL.out,← HMn.out,List.length_replicate] at hadd
 have HAdd:=Hd hadd
 have hzl:Z.length=n:=by rw [HMn.out,addL_len,List.length_replicate]
 have HZl:=Hd hzl
 have HK2:=Hd (HS.out.kept.trans hk12)
 have hw1:=HS.out.kept.size
 have HW1:=Hd hw1
 obtain ⟨G,hG⟩:∃ G,G=w1.heap.size:=⟨_,rfl⟩
 rw [← hG] at HAdd HW1 ⊢
 clear hadd hzl hown hgrow hk12 hz hps hcap hw1 hG
 go_wp2_with fail
 refine HAdd.out.mono ?_
 rintro e w3 ⟨rfl,ho,hk⟩
 have HO:=Hd ho;have HK:=Hd hk
 clear ho hk HAdd
 go_wp2
 go_ret2
 refine ⟨lv,HSp.out,?_⟩
 rw [← HZe.out]
 exact ⟨some ⟨G,0,none⟩,n,by rw [HZl.out];rfl,by rw [HZl.out];exact HO.out,HK2.out.trans' HK.out (fun k hk e=>by have:=HW1.out;omega)⟩
theorem lens_one (a:Option Addr)(c B:Nat)(ws:List Int)(limit M p:Nat)(x:Int)(w:World)(hr:RdI w B a ws)(hb:Small 1000000 ws)(hl:ws.length≤320)(hlim:1≤limit∧limit≤15)
  (hM:wrap64 ((2:Int) ^ limit)=(M:Int)) (hM2:1≤M) (h:leavesL 0 ws=[((p:Int),x)]) (hp:p < ws.length):
  Calls Tryz.prog 144 #[.slice a ws.length c,.int .i64 (limit:Int)] w (LensP w ((List.replicate ws.length 0).set p 1)):=by
 have hv:=leaves_any a c B ws w hr hb hl
 rw [h] at hv
 have hv2:=hv.mono (R':=fun e w'=>∃ a' c',e = .returned (.tuple #[.slice a' 1 c',.bool true])∧LfSt w w' a' c' [((p:Int),x)]) (by
  rintro e w' ⟨a',c',S,rfl,hsp,hst⟩
  have hS:S=[((p:Int),x)]:=List.perm_singleton.1 hsp.perm
  subst hS
  exact ⟨a',c',rfl,hst⟩)
 have HV:=Hd hv2
 clear hv hv2
 obtain ⟨n,hn⟩:∃ n,n=ws.length:=⟨_,rfl⟩
 rw [← hn] at hl HV hp ⊢
 obtain ⟨h3,h4⟩:=hlim
 obtain ⟨i0,hi,hz0,hz1,hz2⟩:=info_parts infoI
 clear hr hb hn h
 go_enter Tryz.func144,Tryz.ntmps144
 go_wp2_with fail
 refine HV.out.mono ?_
 rintro e w1 ⟨a1,c1,rfl,hst⟩
 have HS:=Hd hst
 clear hst HV
 go_wp2_with (at_make;refine wpList_make_full _ rfl _ _ _ rfl 0 3 i0 (.int .i64 0) 1 Tryz.underlying30 hi hz0 hz1 .i64 .i64 _ _ n rfl rfl rfl rfl (by rw [hz2];omega) (by unfold maxLen;omega) (Nat.zero_le _) ?_)
 intro w2 hown hgrow
 rw [toList_madeCells_one] at hown
 have hk12:Kept NoB w1 w2:=(Kept.refl _ _).grown hgrow (fun k _ e=>by cases e)
 obtain ⟨g,off,rfl,hgB,hc0,_⟩:=HS.out.own.reads 0 (by simp)
 have hc1:=hk12.cell hc0
 simp only [Nat.zero_mul,Nat.add_zero,List.getD_cons_zero] at hc1
 have hcell:w2.cell? ⟨w1.heap.size,p,none⟩=some (.int .i64 0):=by
  rw [hown.cellAt p (by omega)];simp [hp]
 have hfz:=hown.frozenAt p
 obtain ⟨s1,s2⟩:=hown.stored p (.int .i64 1)
 have hset:(List.replicate n (Value.int .i64 0)).set p (.int .i64 1)=((List.replicate n (0:Int)).set p 1).map (Value.int .i64):=by
  rw [List.map_set,List.map_replicate]
 rw [hset] at s1
 have HK2:=Hd (HS.out.kept.trans hk12)
 have hk2:=(Kept.refl (fun k=>k=w1.heap.size) w2).grown s2 (fun k _ e=>(Option.some.inj e).symm)
 have HK3:=Hd (HK2.out.trans' hk2 (fun k hk e=>by have:=HS.out.kept.size;omega))
 have HO:=Hd s1
 have hpn:(p:Int) < (n:Int):=by omega
 clear hset s1 s2 hk2 hk12 hown hgrow hc0 hgB
 obtain ⟨G,hG⟩:∃ G,G=w1.heap.size:=⟨_,rfl⟩
 rw [← hG] at hcell hfz HK3 HO ⊢
 clear hG
 go_wp2
 go_ret2
 exact ⟨some ⟨G,0,none⟩,n,by simp,by simpa using HO.out,HK3.out⟩
theorem lens_none (a:Option Addr)(c B:Nat)(ws:List Int)(limit M:Nat)(w:World)(hr:RdI w B a ws)(hb:Small 1000000 ws)(hl:ws.length≤320)(hlim:1≤limit∧limit≤15)
  (hM:wrap64 ((2:Int) ^ limit)=(M:Int)) (hM2:1≤M) (h:leavesL 0 ws=[]):
  Calls Tryz.prog 144 #[.slice a ws.length c,.int .i64 (limit:Int)] w (LensP w (List.replicate ws.length 0)):=by
 have hv:=leaves_any a c B ws w hr hb hl
 rw [h] at hv
 have hv2:=hv.mono (R':=fun e w'=>∃ a' c',e = .returned (.tuple #[.slice a' 0 c',.bool true])∧LfSt w w' a' c' []) (by
  rintro e w' ⟨a',c',S,rfl,hsp,hst⟩
  have hS:S=[]:=List.perm_nil.1 hsp.perm
  subst hS
  exact ⟨a',c',rfl,hst⟩)
 have HV:=Hd hv2
 clear hv hv2
 obtain ⟨n,hn⟩:∃ n,n=ws.length:=⟨_,rfl⟩
 rw [← hn] at hl HV ⊢
 obtain ⟨h3,h4⟩:=hlim
 obtain ⟨i0,hi,hz0,hz1,hz2⟩:=info_parts infoI
 clear hr hb hn h
 go_enter Tryz.func144,Tryz.ntmps144
 go_wp2_with fail
 refine HV.out.mono ?_
 rintro e w1 ⟨a1,c1,rfl,hst⟩
 have HS:=Hd hst
 clear hst HV
 go_wp2_with (at_make;refine wpList_make_full _ rfl _ _ _ rfl 0 3 i0 (.int .i64 0) 1 Tryz.underlying30 hi hz0 hz1 .i64 .i64 _ _ n rfl rfl rfl rfl (by rw [hz2];omega) (by unfold maxLen;omega) (Nat.zero_le _) ?_)
 intro w2 hown hgrow
 rw [toList_madeCells_one] at hown
 have hk12:Kept NoB w1 w2:=(Kept.refl _ _).grown hgrow (fun k _ e=>by cases e)
 have HO:=Hd hown
 have HK2:=Hd (HS.out.kept.trans hk12)
 clear hk12 hown hgrow
 obtain ⟨G,hG⟩:∃ G,G=w1.heap.size:=⟨_,rfl⟩
 rw [← hG] at HO ⊢
 clear hG
 go_wp2
 go_ret2
 exact ⟨some ⟨G,0,none⟩,n,by simp,by simpa using HO.out,HK2.out⟩
structure LensOkP (ws:List Int)(limit:Int):Prop where
 len:ws.length≤320
 lim:1≤limit∧limit≤15
 small:Small 1000000 ws
 few:(leavesL 0 ws).length≤2 ^ limit.toNat
theorem wrap_pow15 (k:Nat)(h:k≤15):wrap64 ((2:Int) ^ k)=((2 ^ k:Nat):Int):=by
 rw [Int.natCast_pow]
 have h2:2 ^ k≤2 ^ 15:=Nat.pow_le_pow_right (by decide) h
 have h3:((2 ^ k:Nat):Int)≤((32768:Nat):Int):=Int.ofNat_le.2 h2
 have h4:(0:Int)≤((2 ^ k:Nat):Int):=Int.natCast_nonneg _
 rw [Int.natCast_pow] at h3 h4
 exact IntWalk.wrap64_in _ (by simp at h3 h4 ⊢;omega)
theorem leaf_place {ws:List Int}{lv:List Lf}(h:Small 1000000 ws)(hs:SrtP lv (leavesL 0 ws)):∀ p∈lv,(0≤p.2∧p.2≤1048576)∧∃ q:Nat,p.1=(q:Int)∧q < ws.length:=by
 intro p hp
 have:=leaves_ok ws 0 h p (hs.perm.mem_iff.1 hp)
 simpa using this
theorem lens_yes (a:Option Addr)(c B:Nat)(ws:List Int)(limit:Int)(w:World)(hr:RdI w B a ws)(h:LensOkP ws limit):
  Calls Tryz.prog 144 #[.slice a ws.length c,.int .i64 limit] w fun e w'=>∃ lv,SrtP lv (leavesL 0 ws)∧LensP w (lensOf lv ws.length limit.toNat) e w':=by
 obtain ⟨h1,h2,h3,h4⟩:=h
 obtain ⟨k,rfl⟩:∃ k:Nat,limit=(k:Int):=⟨limit.toNat,by omega⟩
 simp only [Int.toNat_natCast] at h4 ⊢
 have hM:=wrap_pow15 k (by omega)
 by_cases h5:2≤(leavesL 0 ws).length
 ·exact lens_many a c B ws k (2 ^ k) w hr h3 h1 (by omega) hM rfl h4 h5
 ·by_cases h6:(leavesL 0 ws).length=0
  ·have h7:=List.eq_nil_of_length_eq_zero h6
   refine (lens_none a c B ws k (2 ^ k) w hr h3 h1 (by omega) hM Nat.one_le_two_pow h7).mono ?_
   intro e w' hh
   refine ⟨[],⟨by rw [h7],List.Pairwise.nil⟩,?_⟩
   unfold lensOf
   rw [if_pos (by simp)]
   exact hh
  ·obtain ⟨p,h7⟩:=List.length_eq_one_iff.1 (show (leavesL 0 ws).length=1 by omega)
   obtain ⟨_,q,hq,hql⟩:=leaves_ok ws 0 h3 p (by rw [h7];exact List.mem_singleton.2 rfl)
   refine (lens_one a c B ws k (2 ^ k) q p.2 w hr h3 h1 (by omega) hM Nat.one_le_two_pow (by rw [h7,← hq]) (by omega)).mono ?_
   intro e w' hh
   refine ⟨[p],⟨by rw [h7],by simp⟩,?_⟩
   unfold lensOf
   rw [if_neg (by simp),if_pos (by simp)]
   have:(([p]:List Lf).getD 0 (0,0)).1.toNat=q:=by simp [hq]
   rw [this]
   exact hh
end Go.Proofs.YtfmjfgmbjdhogaaGreatDoor
