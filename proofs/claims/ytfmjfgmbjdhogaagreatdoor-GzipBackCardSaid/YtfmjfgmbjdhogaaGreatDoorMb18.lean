import Derived.Test.YtfmjfgmbjdhogaaGreatDoorMb17
set_option linter.unusedVariables false
set_option linter.unusedSimpArgs false
set_option maxRecDepth 20000
set_option maxHeartbeats 8000000
namespace Go.Proofs.YtfmjfgmbjdhogaaGreatDoor
open Go.RowKit
theorem WroteP.base {w w2 w1:World}{R:Nat}{v0:Value}{bs bs1:List Int}{s:Nat}{ps:List (Nat × Nat)}{ao1:Option Addr}{cap1:Nat}(h:WroteP w2 R v0 bs s ps w1 ao1 cap1 bs1)(hk:Kept NoB w w2):WroteP w R v0 bs s ps w1 ao1 cap1 bs1:=
 ⟨h.1,h.2.1,(hk.mono (fun _ _ e=>e.elim)).trans h.2.2.1,fun k hk2=>by
  rcases h.2.2.2 k hk2 with e | e
  ·exact .inl e
  ·have:=hk.size;exact .inr (by omega)⟩
theorem WroteP.code {w wr:World}{R:Nat}{v0:Value}{bs bs':List Int}{s:Nat}{ps:List (Nat × Nat)}{ao':Option Addr}{cap':Nat}(h:WroteP w R v0 bs s ps wr ao' cap' bs'){ls:List Int}(hs:Small 15 ls)(hl:ls.length≤320){k:Nat}(hk:k < ls.length)(h0:0 < ls.getD k 0)(hsz:s+wdN ps≤800000000000):
  ∃ ck lk:Nat,ls.getD k 0=(lk:Int)∧codeAt ls k=(ck:Int)∧wdN [wordZ ls (k:Int)]≤15∧∀ W,Kept NoB wr W→Calls Tryz.prog 101 #[.pointer (some ⟨R,0,none⟩),.int .u32 (ck:Int),.int .i64 (lk:Int)] W fun e w'=>e = .returned (.bool true)∧∃ ao2 cap2 bs2,WroteP w R v0 bs s (ps++[wordZ ls (k:Int)]) w' ao2 cap2 bs2:=by
 have hb:=hs.getD k hk
 obtain ⟨lk,hlk⟩:∃ lk:Nat,ls.getD k 0=(lk:Int):=⟨(ls.getD k 0).toNat,by omega⟩
 have hcb:=codeAt_bd ls hl hs k hk
 obtain ⟨ck,hck⟩:∃ ck:Nat,codeAt ls k=(ck:Int):=⟨(codeAt ls k).toNat,by omega⟩
 have hword:wordZ ls (k:Int)=(revN lk ck,lk):=by
  unfold wordZ;rw [Int.toNat_natCast,hlk,hck,Int.toNat_natCast,Int.toNat_natCast]
 rw [hlk] at hb h0
 refine ⟨ck,lk,hlk,hck,by rw [hword];simp only [wdN];omega,fun W hW=>?_⟩
 have hw:=h.keptNo hW
 refine (code_calls W R ao' cap' bs' _ ck lk hw.1 (by rw [hck] at hcb;omega) (by omega) (by omega) (by omega)).mono ?_
 intro e w' hp
 obtain ⟨a2,c2,b2,rfl,hW2⟩:=hw.put hp
 rw [hword]
 exact ⟨rfl,a2,c2,b2,hW2⟩
def allOkB (ts:List Tk):Bool:=ts.all Tk.ok
theorem allOk_any (ta:Option Addr)(tc:Nat)(ts:List Tk)(w:World)(hr:Toks w ta ts)(hl:ts.length≤maxLen):
  Calls Tryz.prog 59 #[.slice ta ts.length tc] w fun e w'=>e = .returned (.bool (allOkB ts))∧Kept NoB w w':=by
 have HR:=Hd hr
 obtain ⟨L,hL⟩:∃ L,L=ts.length:=⟨_,rfl⟩
 have HL:=Hd hL
 unfold maxLen at hl
 rw [← hL] at hl ⊢
 obtain ⟨A,hA⟩:∃ A,A=allOkB ts:=⟨_,rfl⟩
 have HA:=Hd hA
 rw [← hA]
 clear hr hL hA
 go_enter Tryz.func59,Tryz.ntmps59
 go_wp2_with fail
 go_loopw [4,7] (fun _x i wr=>∃ j:Nat,j≤L∧i = .int .i64 (j:Int)∧Hid (∀ k,k < j→(ts.getD k ⟨0,0,0⟩).ok=true)∧Hid (Kept NoB w wr)) (fun _ i _=>L - (intOf i).toNat)
 case atStart=>exact ⟨0,by omega,rfl,Hd (fun k hk=>absurd hk (by omega)),Kept.refl _ _⟩
 case round=>
  obtain ⟨j,hj,rfl,HO,HK⟩:=hrel
  by_cases hlt:(j:Int) < (L:Int)
  ·have hjt:j < ts.length:=by have:=HL.out;omega
   have hjL:j < L:=by omega
   obtain ⟨b,off,rfl,c0,c1,c2⟩:=(HR.out.keptNo HK.out) j hjt
   obtain ⟨t,ht⟩:∃ t,t=ts.getD j ⟨0,0,0⟩:=⟨_,rfl⟩
   have HT:=Hd ht
   rw [← ht] at c0 c1 c2
   clear ht
   obtain ⟨l,d,c⟩:=t
   have HOk:=Hd (fun W=>ok_any ⟨l,d,c⟩ W)
   unfold Tk.v at HOk
   simp only at c0 c1 c2 HOk
   obtain ⟨ob,hob⟩:∃ ob,ob=(Tk.mk l d c).ok:=⟨_,rfl⟩
   rw [← hob] at HOk
   have HOb:=Hd hob
   clear hob hjt
   go_wp2_with fail
   refine (HOk.out _).mono ?_
   rintro e w1 ⟨rfl,hk1⟩
   have HK1:=Hd ((HK.out.alloc _).trans hk1)
   clear hk1 c0 c1 c2
   cases ob with
   | false=>
    have hAf:A=false:=by
     rw [HA.out]
     unfold allOkB
     rw [List.all_eq_false]
     have hjl:j < ts.length:=by have:=HL.out;omega
     refine ⟨ts[j],List.getElem_mem hjl,?_⟩
     have h1:=HT.out
     rw [List.getD,List.getElem?_eq_getElem hjl,Option.getD_some] at h1
     rw [← h1,← HOb.out]
     decide
    subst hAf
    go_wp2
    go_ret
    exact ⟨rfl,HK1.out⟩
   | true=>
    go_wp2
    go_roundw
    case rel=>
     refine ⟨j+1,by omega,by go_num,Hd fun k hk=>?_,HK1⟩
     by_cases hkj:k < j
     ·exact HO.out k hkj
     ·obtain rfl:k=j:=by omega
      rw [← HT.out];exact HOb.out.symm
    case measure=>simp [intOf];omega
  ·obtain rfl:j=L:=by omega
   have hAt:A=true:=by
    rw [HA.out]
    unfold allOkB
    rw [List.all_eq_true]
    intro t ht
    obtain ⟨i,hi,rfl⟩:=List.getElem_of_mem ht
    have:=HO.out i (by have:=HL.out;omega)
    rw [List.getD,List.getElem?_eq_getElem hi,Option.getD_some] at this
    exact this
   subst hAt
   go_wp2
   go_ret
   exact ⟨rfl,HK.out⟩
theorem TokWs.snoc {lit dist:List Int}{ts:List Tk}{ws vs:List (Nat × Nat)}{t:Tk}(h:TokWs lit dist ts ws)(ht:TokW lit dist t vs):TokWs lit dist (ts++[t]) (ws++vs):=by
 induction h with
 | nil=>simpa using TokWs.cons ht .nil
 | cons a _ ih=>rw [List.cons_append,List.append_assoc];exact .cons a ih
def BoxW (w:World)(R B:Nat)(v:Value)(d:Int):Prop:=B≠R∧v.ownBlock≠some B∧B < w.heap.size∧w.cell? ⟨B,1,none⟩=some (.int .i64 d)
theorem BoxW.keptNo {w w':World}{R B:Nat}{v:Value}{d:Int}(h:BoxW w R B v d)(hk:Kept NoB w w'):BoxW w' R B v d:=
 ⟨h.1,h.2.1,Nat.lt_of_lt_of_le h.2.2.1 hk.size,hk.cell h.2.2.2⟩
theorem BoxW.put {w w1 w2:World}{R B:Nat}{v0:Value}{bs bs1:List Int}{s x n:Nat}{ps:List (Nat × Nat)}{ao1:Option Addr}{cap1:Nat}{e:Ending}{d:Int}(hb:BoxW w1 R B (.slice ao1 bs1.length cap1) d)(h:WroteP w R v0 bs s ps w1 ao1 cap1 bs1)(h2:PutP w1 R (.slice ao1 bs1.length cap1) bs1 (s+wdN ps) x n e w2):
  ∃ ao2 cap2 bs2,e = .returned (.bool true)∧WroteP w R v0 bs s (ps++[(x,n)]) w2 ao2 cap2 bs2∧BoxW w2 R B (.slice ao2 bs2.length cap2) d:=by
 obtain ⟨hw1,hw2,hw3,hw4⟩:=h
 obtain ⟨ao2,cap2,bs2,rfl,p1,p2,p3,p4⟩:=h2
 refine ⟨ao2,cap2,bs2,rfl,⟨?_,?_,?_,?_⟩,hb.1,?_,Nat.lt_of_lt_of_le hb.2.2.1 p3.size,?_⟩
 ·rw [wdN_append]
  simp only [wdN,Nat.add_zero]
  rw [← Nat.add_assoc]
  exact p1
 ·rw [putsN_append]
  simp only [putsN,Nat.zero_mul,Nat.add_zero]
  rw [p2,hw2,Nat.add_mul,Nat.add_assoc,Nat.pow_add,Nat.mul_assoc,Nat.mul_comm (2 ^ wdN _) (2 ^ s)]
 ·refine hw3.transO p3 ?_
  intro j hj e
  rcases e with e | e
  ·exact .inl e
  ·rcases hw4 j e with h | h
   ·exact .inr h
   ·omega
 ·intro k hk'
  rcases p4 k hk' with h | h
  ·exact hw4 k h
  ·have:=hw3.size;omega
 ·intro e
  rcases p4 _ e with h | h
  ·exact hb.2.1 h
  ·have:=hb.2.2.1;omega
 ·have hx:¬ OrB (OneB R) (OwnB (.slice ao1 bs1.length cap1)) B:=fun e=>e.elim (fun e=>hb.1 e) (fun e=>hb.2.1 e)
  exact (World.cell?_of_block (p3.block B hb.2.2.1 hx)).trans hb.2.2.2
theorem WroteP.codeB {w wr:World}{R B:Nat}{v0:Value}{bs bs':List Int}{s:Nat}{ps:List (Nat × Nat)}{ao':Option Addr}{cap':Nat}{d:Int}(h:WroteP w R v0 bs s ps wr ao' cap' bs')(hb:BoxW wr R B (.slice ao' bs'.length cap') d){ls:List Int}(hs:Small 15 ls)(hl:ls.length≤320){k:Nat}(hk:k < ls.length)(h0:0 < ls.getD k 0)(hsz:s+wdN ps≤800000000000):
  ∃ ck lk:Nat,ls.getD k 0=(lk:Int)∧codeAt ls k=(ck:Int)∧wdN [wordZ ls (k:Int)]≤15∧∀ W,Kept NoB wr W→Calls Tryz.prog 101 #[.pointer (some ⟨R,0,none⟩),.int .u32 (ck:Int),.int .i64 (lk:Int)] W fun e w'=>e = .returned (.bool true)∧∃ ao2 cap2 bs2,WroteP w R v0 bs s (ps++[wordZ ls (k:Int)]) w' ao2 cap2 bs2∧BoxW w' R B (.slice ao2 bs2.length cap2) d:=by
 have hbk:=hs.getD k hk
 obtain ⟨lk,hlk⟩:∃ lk:Nat,ls.getD k 0=(lk:Int):=⟨(ls.getD k 0).toNat,by omega⟩
 have hcb:=codeAt_bd ls hl hs k hk
 obtain ⟨ck,hck⟩:∃ ck:Nat,codeAt ls k=(ck:Int):=⟨(codeAt ls k).toNat,by omega⟩
 have hword:wordZ ls (k:Int)=(revN lk ck,lk):=by
  unfold wordZ;rw [Int.toNat_natCast,hlk,hck,Int.toNat_natCast,Int.toNat_natCast]
 rw [hlk] at hbk h0
 refine ⟨ck,lk,hlk,hck,by rw [hword];simp only [wdN];omega,fun W hW=>?_⟩
 have hw:=h.keptNo hW
 have hbW:=hb.keptNo hW
 refine (code_calls W R ao' cap' bs' _ ck lk hw.1 (by rw [hck] at hcb;omega) (by omega) (by omega) (by omega)).mono ?_
 intro e w' hp
 obtain ⟨a2,c2,b2,rfl,hW2,hB2⟩:=hbW.put hw hp
 rw [hword]
 exact ⟨rfl,a2,c2,b2,hW2,hB2⟩
theorem TokW.lit {lit dist:List Int}{t:Tk}{ws:List (Nat × Nat)}(h:TokW lit dist t ws)(h0:t.l=0):∃ k:Nat,k < lit.length∧0 < lit.getD k 0∧t=⟨0,0,(k:Int)⟩∧ws=[wordZ lit (k:Int)]:=by
 cases h with
 | one c _ _ hc=>
  obtain ⟨k,rfl,hk,hk0⟩:=hc
  exact ⟨k,hk,hk0,rfl,rfl⟩
 | long j u _ _ _ _=>exact absurd (show (258:Int)=0 from h0) (by decide)
 | copy i v j u hi _ _ _ _ _ _=>
  have:=lb_top i hi
  simp only at h0
  omega
theorem take_snocT (ts:List Tk)(j:Nat)(h:j < ts.length):ts.take (j+1)=ts.take j++[ts.getD j ⟨0,0,0⟩]:=by
 rw [List.take_add_one,List.getD,List.getElem?_eq_getElem h];rfl
def CdRd (w2:World)(T:Nat→Prop)(ls:List Int)(la ca:Option Addr):Prop:=
 ∀ W,Kept T w2 W→∀ k,k < ls.length→∃ g o h,la=some ⟨g,o,none⟩∧W.cell? ⟨g,o+k,none⟩=some (.int .i64 (ls.getD k 0))∧ca=some ⟨h,0,none⟩∧W.cell? ⟨h,k,none⟩=some (.int .u32 (codeAt ls k))
theorem TokW.copyOf {lit dist:List Int}{t:Tk}{ws:List (Nat × Nat)}(h:TokW lit dist t ws)(h0:t.l≠0):∃ (n d sy X v j u:Nat),t=⟨(n:Int),(d:Int),0⟩∧1≤n∧n≤258∧ws=[wordZ lit (sy:Int),(v,X),wordZ dist (j:Int),(u,de j)]∧HasC lit (sy:Int)∧HasC dist (j:Int)∧X≤5∧de j≤13∧v < 2 ^ X∧u < 2 ^ de j∧
  (∀ W,Calls Tryz.prog 102 #[.int .i64 (n:Int)] W fun e w'=>e = .returned (.tuple #[.int .i64 (sy:Int),.int .i64 (X:Int),.int .u32 (v:Int)])∧W=w')∧
  (∀ W,Calls Tryz.prog 103 #[.int .i64 (d:Int)] W fun e w'=>e = .returned (.tuple #[.int .i64 (j:Int),.int .i64 ((de j:Nat):Int),.int .u32 (u:Int)])∧W=w'):=by
 cases h with
 | one c _ _ _=>exact absurd rfl h0
 | long j u hj hu h1 h2=>
  have ht:=db_top j hj
  exact ⟨258,db j+u,285,0,0,j,u,rfl,by decide,by decide,rfl,h1,h2,by decide,ht.2.2,by decide,hu,fun W=>lenSym_last W,fun W=>distSym_any j u (db j+u) W hj hu rfl⟩
 | copy i v j u hi hv hlv hj hu h1 h2=>
  have ht:=db_top j hj
  have hl:=lb_top i hi
  exact ⟨lb i+v,db j+u,257+i,le4 i,v,j,u,rfl,by omega,by omega,rfl,h1,h2,hl.2.2.2,ht.2.2,hv,hu,fun W=>lenSym_any i v (lb i+v) W hi hv rfl hlv,fun W=>distSym_any j u (db j+u) W hj hu rfl⟩
theorem TokW.wd {lit dist:List Int}{t:Tk}{ws:List (Nat × Nat)}(hl:Small 15 lit)(hd:Small 15 dist)(h:TokW lit dist t ws):wdN ws≤48:=by
 have hz:∀ (ls:List Int) (z:Int),Small 15 ls→HasC ls z→(wordZ ls z).2≤15:=by
  intro ls z hs hc
  obtain ⟨k,rfl,hk,_⟩:=hc
  have:=hs.getD k hk
  simp only [wordZ,Int.toNat_natCast]
  omega
 cases h with
 | one c _ _ hc=>have:=hz lit c hl hc;simp only [wdN];omega
 | long j u hj hu h1 h2=>
  have ht:=db_top j hj
  have:=hz lit 285 hl h1
  have:=hz dist j hd h2
  simp only [wdN];omega
 | copy i v j u hi hv hlv hj hu h1 h2=>
  have ht:=db_top j hj
  have h3:=lb_top i hi
  have:=hz lit ((257+i:Nat):Int) hl h1
  have:=hz dist j hd h2
  simp only [wdN];omega
set_option maxHeartbeats 16000000 in
theorem putTokens_yes (w:World)(R:Nat)(ao:Option Addr)(cap:Nat)(bs:List Int)(s:Nat)(S:Nat→Prop)(la:Option Addr)(lc:Nat)(lit:List Int)(da:Option Addr)(dc:Nat)(dist:List Int)(ta:Option Addr)(tc:Nat)(ts:List Tk)
  (h:Wtr w R ao cap bs s) (hss:s≤600000000000) (hx:RdG w S la lit) (hy:RdG w S da dist) (hS:∀ k,S k→k≠R∧(Value.slice ao bs.length cap).ownBlock≠some k) (hcl:CodeOk lit) (hcd:CodeOk dist) (hend:HasC lit 256)
  (hr:Toks w ta ts) (hsep:ts≠[]→∀ a,ta=some a→a.block≠R∧(Value.slice ao bs.length cap).ownBlock≠some a.block) (htl:ts.length≤2000000) (hts:∀ t∈ts,∃ ws,TokW lit dist t ws):
  Calls Tryz.prog 62 #[.pointer (some ⟨R,0,none⟩),.slice la lit.length lc,.slice da dist.length dc,.slice ta ts.length tc] w fun e w'=>∃ ws ao' cap' bs',e = .returned (.tuple #[])∧TokWs lit dist ts ws∧WroteP w R (.slice ao bs.length cap) bs s (ws++[wordZ lit 256]) w' ao' cap' bs':=by
 have HCa:=Hd (codes_calls la lc _ lit w hx.room hcl.2.1 hcl.1 hcl.2.2)
 have HCb:=Hd (fun W (hk:Kept NoB w W)=>codes_calls da dc _ dist W (hy.kept hk (fun _ _ e=>e)).room hcd.2.1 hcd.1 hcd.2.2)
 have H:=Hd h;have HX:=Hd hx;have HY:=Hd hy;have HS:=Hd hS;have HCl:=Hd hcl;have HCd:=Hd hcd;have HEn:=Hd hend;have HR:=Hd hr;have HSep:=Hd hsep;have HTs:=Hd hts
 obtain ⟨L,hL⟩:∃ L,L=ts.length:=⟨_,rfl⟩
 obtain ⟨nl,hnl⟩:∃ n,n=lit.length:=⟨_,rfl⟩
 obtain ⟨nd,hnd⟩:∃ n,n=dist.length:=⟨_,rfl⟩
 have HL:=Hd hL;have HNl:=Hd hnl;have HNd:=Hd hnd
 have hnl3:nl≤320:=by rw [hnl];exact hcl.1
 have hnd3:nd≤320:=by rw [hnd];exact hcd.1
 rw [← hnl] at HCa
 rw [← hnd] at HCb
 rw [← hL] at htl
 rw [← hL,← hnl,← hnd]
 clear h hx hy hS hcl hcd hend hr hsep hts hL hnl hnd
 go_enter Tryz.func62,Tryz.ntmps62
 go_wp2_with fail
 refine HCa.out.mono ?_
 intro e w1 hp
 obtain ⟨a1,c1,rfl,ho1,hr1,hk1⟩:=codes_read2 hp
 have hcl1:(codesL lit).length=nl:=by unfold codesL;rw [codesP_len];exact HNl.out.symm
 rw [hcl1] at hr1 ho1 ⊢
 have HR1:=Hd hr1;have HO1:=Hd ho1;have HK1:=Hd hk1
 clear hp hr1 ho1 hk1 hcl1 HCa
 go_wp2_with fail
 refine (HCb.out w1 HK1.out).mono ?_
 intro e w2 hp
 obtain ⟨a2,c2,rfl,ho2,hr2,hk2⟩:=codes_read2 hp
 have hcl2:(codesL dist).length=nd:=by unfold codesL;rw [codesP_len];exact HNd.out.symm
 rw [hcl2] at hr2 ho2 ⊢
 have HK2:=Hd (HK1.out.trans hk2)
 have hW2:=H.out.keptNo HK2.out
 have hne:∀ (a:Option Addr) (c n:Nat) (zs:List Value),w2.ownsRow 0 71 1 (.slice a n c) n zs→∀ g,a=some ⟨g,0,none⟩→¬ OrB (OneB R) (OwnB (.slice ao bs.length cap)) g:=by
  intro a c n zs ho g hg e
  subst hg
  rcases e with e | e
  ·exact row_ne ho hW2.1 (by decide) g rfl e
  ·rcases ho.2 with ⟨hv,_⟩ | ⟨g',cc,cur,hv,_,hgg,_⟩
   ·simp at hv
   ·simp at hv
    obtain ⟨rfl,rfl⟩:=hv
    exact row_ne hW2.2.1 hgg (by decide) _ e rfl
 have hSn:∀ k,S k→¬ OrB (OneB R) (OwnB (.slice ao bs.length cap)) k:=fun k hk e=>by
  rcases e with e | e
  ·exact (HS.out k hk).1 e
  ·exact (HS.out k hk).2 e
 have HLi:Hid (CdRd w2 (OrB (OneB R) (OwnB (.slice ao bs.length cap))) lit la a1):=Hd fun W hW k hk=>by
  obtain ⟨g,o,hla,_,hc⟩:=((HX.out.kept HK2.out (fun _ _ e=>e)).kept hW hSn) k hk
  obtain ⟨h,ha1,hc2⟩:=HR1.out k (by rw [HNl.out];exact hk)
  have ho:=hk2.row HO1.out (fun _ _ e=>e)
  refine ⟨g,o,h,hla,hc,ha1,?_⟩
  have hc3:=hk2.cell hc2
  rw [codesL_get _ _ hk] at hc3
  exact (World.cell?_of_block (hW.block _ (World.block_lt_of_cell? w2 _ hc3) (hne a1 c1 nl _ ho h ha1))).trans hc3
 have HDi:Hid (CdRd w2 (OrB (OneB R) (OwnB (.slice ao bs.length cap))) dist da a2):=Hd fun W hW k hk=>by
  obtain ⟨g,o,hla,_,hc⟩:=((HY.out.kept HK2.out (fun _ _ e=>e)).kept hW hSn) k hk
  obtain ⟨h,ha1,hc2⟩:=hr2 k (by rw [HNd.out];exact hk)
  refine ⟨g,o,h,hla,hc,ha1,?_⟩
  rw [codesL_get _ _ hk] at hc2
  exact (World.cell?_of_block (hW.block _ (World.block_lt_of_cell? w2 _ hc2) (hne a2 c2 nd _ ho2 h ha1))).trans hc2
 have HTk:Hid (∀ W,Kept (OrB (OneB R) (OwnB (.slice ao bs.length cap))) w2 W→∀ j,j < ts.length→∃ b off,ta=some ⟨b,off,none⟩∧W.cell? ⟨b,off+j*3,none⟩=some (.int .i64 (ts.getD j ⟨0,0,0⟩).l)∧W.cell? ⟨b,off+j*3+1,none⟩=some (.int .i64 (ts.getD j ⟨0,0,0⟩).d)∧W.cell? ⟨b,off+j*3+2,none⟩=some (.int .u8 (ts.getD j ⟨0,0,0⟩).c)):=Hd fun W hW j hj=>by
  obtain ⟨b,off,hta,x0,x1,x2⟩:=(HR.out.keptNo HK2.out) j hj
  have hs:=HSep.out (fun e=>by rw [e] at hj;simp at hj) _ hta
  have hb:¬ OrB (OneB R) (OwnB (.slice ao bs.length cap)) b:=fun e=>e.elim (fun e=>hs.1 e) (fun e=>hs.2 e)
  have hc:∀ (o:Nat) (v:Value),w2.cell? ⟨b,o,none⟩=some v→W.cell? ⟨b,o,none⟩=some v:=fun o v hv=>(World.cell?_of_block (hW.block _ (World.block_lt_of_cell? w2 _ hv) hb)).trans hv
  exact ⟨b,off,hta,hc _ _ x0,hc _ _ x1,hc _ _ x2⟩
 have HW2:=Hd (WroteP.nil hW2)
 clear hp hr2 ho2 hk2 hcl2 hW2 hne hSn HCb HR1 HO1
 go_wp2_with fail
 go_loopw [13,14,15,16,29] (fun _a _b _c _d i wr=>∃ (j:Nat) (ws:List (Nat × Nat)) (ao':Option Addr) (cap':Nat) (bs':List Int),j≤L∧i = .int .i64 (j:Int)∧Hid (TokWs lit dist (ts.take j) ws)∧Hid (wdN ws≤48*j)∧Hid (WroteP w2 R (.slice ao bs.length cap) bs s ws wr ao' cap' bs')) (fun _ _ _ _ i _=>L - (intOf i).toNat)
 case atStart=>exact ⟨0,[],ao,cap,bs,by omega,rfl,Hd (by rw [List.take_zero];exact .nil),Hd (by simp [wdN]),HW2⟩
 case round=>
  obtain ⟨j,ws,ao',cap',bs',hj,rfl,HWs,HWd,HW⟩:=hrel
  by_cases hlt:(j:Int) < (L:Int)
  ·have hjt:j < ts.length:=by have:=HL.out;omega
   have hjL:j < L:=by omega
   obtain ⟨b,off,rfl,c0,c1,c2⟩:=HTk.out wr HW.out.2.2.1 j hjt
   obtain ⟨t,ht⟩:∃ t,t=ts.getD j ⟨0,0,0⟩:=⟨_,rfl⟩
   obtain ⟨vs,hvs⟩:=HTs.out t (by rw [ht,List.getD,List.getElem?_eq_getElem hjt,Option.getD_some];exact List.getElem_mem hjt)
   have HVs:=Hd hvs
   have HNext:Hid (TokWs lit dist (ts.take (j+1)) (ws++vs)):=Hd (by
    rw [take_snocT ts j hjt,← ht]
    exact HWs.out.snoc hvs)
   have HNd1:Hid (wdN (ws++vs)≤48*(j+1)):=Hd (by
    rw [wdN_append]
    have:=hvs.wd HCl.out.2.1 HCd.out.2.1
    have:=HWd.out
    omega)
   rw [← ht] at c0 c1 c2
   have hsz:s+wdN ws≤700000000000:=by have:=HWd.out;omega
   have HSz:=Hd hsz
   clear ht hvs hsz
   by_cases hl0:t.l=0
   ·obtain ⟨k,hkl,hk0,rfl,rfl⟩:=HVs.out.lit hl0
    obtain ⟨ck,lk,hlk,hck,hw15,hcall⟩:=HW.out.code HCl.out.2.1 HCl.out.1 hkl hk0 (by have:=HSz.out;omega)
    obtain ⟨g,o,h',rfl,x0,rfl,y0⟩:=HLi.out wr HW.out.2.2.1 k hkl
    rw [hlk] at x0
    rw [hck] at y0
    simp only at c0 c1 c2
    have hkn:(k:Int) < nl:=by have:=HNl.out;omega
    have HCall:=Hd hcall
    clear hcall hlk hck hw15 hl0 hjt hkl hk0
    obtain ⟨B,hB⟩:∃ B,B=wr.heap.size:=⟨_,rfl⟩
    go_upto_region 6 with fail
    rw [← hB]
    obtain ⟨wb,hwb⟩:∃ wb,wb=wr.alloc (.cells #[.int .i64 0,.int .i64 0,.int .u8 (k:Int)] 101):=⟨_,rfl⟩
    have hc2:(wr.alloc (.cells #[.int .i64 0,.int .i64 0,.int .u8 (k:Int)] 101)).cell? ⟨B,2,none⟩=some (.int .u8 (k:Int)):=by rw [hB];exact cell_new 2 rfl
    have hbA:Kept NoB wr (wr.alloc (.cells #[.int .i64 0,.int .i64 0,.int .u8 (k:Int)] 101)):=(Kept.refl _ _).alloc _
    rw [← hwb] at hc2 hbA ⊢
    have HbA:=Hd hbA
    have X0:∀ W,Kept NoB wb W→W.cell? ⟨g,o+k,none⟩=some (.int .i64 (lk:Int)):=fun W h=>(HbA.out.trans h).cell x0
    have Y0:∀ W,Kept NoB wb W→W.cell? ⟨h',k,none⟩=some (.int .u32 (ck:Int)):=fun W h=>(HbA.out.trans h).cell y0
    have Z0:∀ W,Kept NoB wb W→W.cell? ⟨B,2,none⟩=some (.int .u8 (k:Int)):=fun W h=>h.cell hc2
    have hk0:=Kept.refl NoB wb
    clear hbA hwb hB hc2 x0 y0 c0 c1 c2
    go_region_with (go_at_call 101;((with_reducible refine (HCall.out _ ?_).mono ?_);(exact HbA.out.trans ((Kept.refl NoB wb).drewN _));rintro e wn ⟨rfl,ao2,cap2,bs2,hwn⟩;have HWn:=Hd hwn;clear hwn))
    all_goals
     go_wp2
     go_roundw
     case rel=>exact ⟨j+1,_,ao2,cap2,bs2,by omega,by go_num,HNext,HNd1,HWn⟩
     case measure=>simp [intOf];omega
   ·obtain ⟨n,d,sy,X,v,jj,u,rfl,hn1,hn2,rfl,hcs,hcj,hX5,hD13,hvX,huD,hLS,hDS⟩:=HVs.out.copyOf hl0
    simp only at c0 c1 c2
    obtain ⟨k,hks,hkl,hk0⟩:=hcs
    obtain rfl:sy=k:=by omega
    obtain ⟨m,hmj,hml,hm0⟩:=hcj
    obtain rfl:jj=m:=by omega
    obtain ⟨E,hE⟩:∃ E,E=de jj:=⟨_,rfl⟩
    rw [← hE] at hD13 huD hDS
    have hn0:((n:Int) == 0)=false:=by simp;omega
    have hkn:(sy:Int) < nl:=by have:=HNl.out;omega
    have hmn:(jj:Int) < nd:=by have:=HNd.out;omega
    have hRlt:=obj_lt HW.out.1.1
    have hAlt:∀ k,(Value.slice ao' bs'.length cap').ownBlock=some k→k < wr.heap.size:=own_lt HW.out.1.2.1
    obtain ⟨B,hB⟩:∃ B,B=wr.heap.size:=⟨_,rfl⟩
    have HAl:Hid (B≠R∧(Value.slice ao' bs'.length cap').ownBlock≠some B):=Hd ⟨by omega,fun e=>by have:=hAlt B e;omega⟩
    have HBs:=Hd (show B < wr.heap.size+1 by omega)
    have HLS:=Hd hLS
    have HDS:=Hd hDS
    have HE:=Hd hE
    have HvX:=Hd hvX
    have HuD:=Hd huD
    have HKl:=Hd hkl;have HK0:=Hd hk0;have HMl:=Hd hml;have HM0:=Hd hm0
    clear hks hmj hRlt hAlt hLS hDS hE hvX huD hl0 hjt hkl hk0 hml hm0
    go_upto_region 7 with fail
    rw [← hB]
    obtain ⟨wb,hwb⟩:∃ wb,wb=wr.alloc (.cells #[.int .i64 (n:Int),.int .i64 (d:Int),.int .u8 0] 101):=⟨_,rfl⟩
    have hc0:(wr.alloc (.cells #[.int .i64 (n:Int),.int .i64 (d:Int),.int .u8 0] 101)).cell? ⟨B,0,none⟩=some (.int .i64 (n:Int)):=by rw [hB];exact cell_new 0 rfl
    have hc1:(wr.alloc (.cells #[.int .i64 (n:Int),.int .i64 (d:Int),.int .u8 0] 101)).cell? ⟨B,1,none⟩=some (.int .i64 (d:Int)):=by rw [hB];exact cell_new 1 rfl
    have hbA:Kept NoB wr (wr.alloc (.cells #[.int .i64 (n:Int),.int .i64 (d:Int),.int .u8 0] 101)):=(Kept.refl _ _).alloc _
    have hsz:B < (wr.alloc (.cells #[.int .i64 (n:Int),.int .i64 (d:Int),.int .u8 0] 101)).heap.size:=by rw [World.size_alloc];exact HBs.out
    rw [← hwb] at hc0 hc1 hbA hsz ⊢
    have HWb:=Hd (HW.out.keptNo hbA)
    have HBox:Hid (BoxW wb R B (.slice ao' bs'.length cap') (d:Int)):=Hd ⟨HAl.out.1,HAl.out.2,hsz,hc1⟩
    clear hwb hB c0 c1 c2 hc1 hbA hsz HBs HAl
    go_wp2_with fail
    refine (HLS.out _).mono ?_
    rintro e wx ⟨rfl,rfl⟩
    clear hc0
    obtain ⟨ck,lk,hlk,hck,hw15,hcall⟩:=HWb.out.codeB HBox.out HCl.out.2.1 HCl.out.1 HKl.out HK0.out (by have:=HSz.out;omega)
    obtain ⟨g,o,h',rfl,x0,rfl,y0⟩:=HLi.out wb HWb.out.2.2.1 sy HKl.out
    rw [hlk] at x0
    rw [hck] at y0
    have HCall:=Hd hcall
    have X0:∀ W,Kept NoB wb W→W.cell? ⟨g,o+sy,none⟩=some (.int .i64 (lk:Int)):=fun W h=>h.cell x0
    have Y0:∀ W,Kept NoB wb W→W.cell? ⟨h',sy,none⟩=some (.int .u32 (ck:Int)):=fun W h=>h.cell y0
    have hk0:=Kept.refl NoB wb
    have HW15:=Hd hw15
    clear hcall hlk hck x0 y0 hw15
    go_upto_region 8 with fail
    go_region_with (go_at_call 101;((with_reducible refine (HCall.out _ ?_).mono ?_);(exact ((Kept.refl NoB wb).drewN _));rintro e wn ⟨rfl,ao2,cap2,bs2,hwn,hbn⟩;have HWn:=Hd hwn;have HBn:=Hd hbn;clear hwn hbn))
    all_goals
     have hput:=put_any wn R ao2 cap2 bs2 _ v X HWn.out.1 (by have:=HvX.out;have h2:(2:Nat) ^ X≤2 ^ 5:=Nat.pow_le_pow_right (by decide) hX5;omega) (by omega) (by rw [wdN_append];have:=HSz.out;have:=HW15.out;omega)
     rw [Nat.mod_eq_of_lt HvX.out] at hput
     have HPut:=Hd hput
     clear hput
     go_wp2_with fail
     with_reducible refine HPut.out.mono ?_
     intro e w3 hp
     obtain ⟨ao3,cap3,bs3,rfl,hw3,hb3⟩:=HBn.out.put HWn.out hp
     have hc1:=hb3.2.2.2
     have HW3:=Hd hw3
     clear hp hw3 HPut hb3
     go_wp2_with fail
     refine (HDS.out _).mono ?_
     rintro e wx ⟨rfl,rfl⟩
     clear hc1
     obtain ⟨dk,mk,hmk,hdk,hd15,hcall2⟩:=HW3.out.code HCd.out.2.1 HCd.out.1 HMl.out HM0.out (by
      have e1:wdN [(v,X)]=X:=by simp [wdN]
      rw [wdN_append,wdN_append,e1]
      have:=HW15.out
      have:=HSz.out
      omega)
     obtain ⟨g2,o2,h2,rfl,x1,rfl,y1⟩:=HDi.out w3 HW3.out.2.2.1 jj HMl.out
     rw [hmk] at x1
     rw [hdk] at y1
     have HCall2:=Hd hcall2
     have X1:∀ W,Kept NoB w3 W→W.cell? ⟨g2,o2+jj,none⟩=some (.int .i64 (mk:Int)):=fun W h=>h.cell x1
     have Y1:∀ W,Kept NoB w3 W→W.cell? ⟨h2,jj,none⟩=some (.int .u32 (dk:Int)):=fun W h=>h.cell y1
     have hk3:=Kept.refl NoB w3
     have HD15:=Hd hd15
     clear hcall2 hmk hdk x1 y1 hd15 X0 Y0 hk0
     go_upto_region 11 with fail
     go_region_with (go_at_call 101;((with_reducible refine (HCall2.out _ ?_).mono ?_);(exact ((Kept.refl NoB w3).drewN _));rintro e wm ⟨rfl,ao4,cap4,bs4,hwm⟩;have HWm:=Hd hwm;clear hwm))
     all_goals
      have hput2:=put_any wm R ao4 cap4 bs4 _ u E HWm.out.1 (by have:=HuD.out;have h2:(2:Nat) ^ E≤2 ^ 13:=Nat.pow_le_pow_right (by decide) hD13;omega) (by omega) (by
       have e1:wdN [(v,X)]=X:=by simp [wdN]
       rw [wdN_append,wdN_append,wdN_append,e1]
       have:=HW15.out
       have:=HD15.out
       have:=HSz.out
       omega)
      rw [Nat.mod_eq_of_lt HuD.out] at hput2
      have HPut2:=Hd hput2
      clear hput2
      go_wp2_with fail
      with_reducible refine HPut2.out.mono ?_
      intro e w5 hp
      obtain ⟨ao5,cap5,bs5,rfl,hw5⟩:=HWm.out.put hp
      have HW5:Hid (WroteP w2 R (.slice ao bs.length cap) bs s (ws++[wordZ lit (sy:Int),(v,X),wordZ dist (jj:Int),(u,de jj)]) w5 ao5 cap5 bs5):=Hd (by
       rw [← HE.out]
       simp only [List.append_assoc,List.cons_append,List.nil_append] at hw5
       exact hw5)
      clear hp hw5 HPut2
      go_wp2
      go_roundw
      case rel=>exact ⟨j+1,_,ao5,cap5,bs5,by omega,by go_num,HNext,HNd1,HW5⟩
      case measure=>simp [intOf];omega
  ·have hfin:TokWs lit dist ts ws:=by
    have h:=HWs.out
    rw [List.take_of_length_le (by rw [← HL.out];omega)] at h
    exact h
   have HFin:=Hd hfin
   obtain ⟨k,hk,hkl,hk0⟩:=HEn.out
   obtain rfl:k=256:=by omega
   obtain ⟨ck,lk,hlk,hck,hw15,hcall⟩:=HW.out.code HCl.out.2.1 HCl.out.1 hkl hk0 (by have:=HWd.out;omega)
   obtain ⟨g,o,h',rfl,x0,rfl,y0⟩:=HLi.out wr HW.out.2.2.1 256 hkl
   rw [hlk] at x0
   rw [hck] at y0
   have hkn:(256:Int) < nl:=by have:=HNl.out;omega
   have HCall:=Hd hcall
   have X0:∀ W,Kept NoB wr W→W.cell? ⟨g,o+256,none⟩=some (.int .i64 (lk:Int)):=fun W h=>h.cell x0
   have Y0:∀ W,Kept NoB wr W→W.cell? ⟨h',256,none⟩=some (.int .u32 (ck:Int)):=fun W h=>h.cell y0
   have hk0':=Kept.refl NoB wr
   clear hcall hlk hck hw15 hkl hk0 hk hfin x0 y0
   go_upto_region 14 with fail
   go_region_with (go_at_call 101;((with_reducible refine (HCall.out _ ?_).mono ?_);(exact ((Kept.refl NoB wr).drewN _));rintro e wn ⟨rfl,ao2,cap2,bs2,hwn⟩;have HWn:=Hd hwn;clear hwn))
   all_goals
    go_wp2
    refine bodyPost_end (results_none rfl _ _ _) rfl ?_
    exact ⟨ws,ao2,cap2,bs2,rfl,HFin.out,HWn.out.base HK2.out⟩
theorem ReadS.le {code:List Int}{T v p q:Nat}{s f:Int}(h:ReadS code T v p s f q):p≤q∧(f=0→p < q):=by
 rcases h with ⟨n,i,h1,_,_,_,_,_,_,_,h2⟩ | ⟨_,_,h1,h2⟩
 ·exact ⟨by omega,fun _=>by omega⟩
 ·refine ⟨by omega,fun h0=>?_⟩
  rw [h0] at h1
  split at h1 <;> exact absurd h1 (by decide)
theorem SymR.le {bs code:List Int}{p q:Nat}{s f:Int}(h:SymR bs code p s f q):p≤q∧(f=0→p < q):=by
 obtain ⟨T,_,h⟩:=h
 exact h.le
theorem RowR.le {code bs:List Int}{N:Nat}{p:Nat}{l:List Int}{p1:Nat}{l1:List Int}{e1:Int}(h:RowR code bs N p l p1 l1 e1):p≤p1:=by
 induction h with
 | done ha=>exact Nat.le_refl _
 | fail ha hT hR hf=>exact Nat.le_refl _
 | short=>exact Nat.le_refl _
 | bad=>exact Nat.le_refl _
 | step ha hT hR hq hok hfit hrest ih=>have:=hR.le;omega
theorem mayL_of {ls:List Int}(h:fullB ls=true∨kindA ls=1):Small 15 ls∧ls.length≤320∧refS ls=0:=by
 have hm:MayL ls:=by
  rcases h with h | h
  ·exact full_may h
  ·apply Classical.byContradiction
   intro hn
   have:=kindA_bad hn
   omega
 refine ⟨hm.small,hm.len,?_⟩
 rcases h with h | h
 ·exact full_ref h
 ·unfold kindA at h
  rw [if_pos hm] at h
  unfold refS
  rw [h];rfl
theorem head_code {bs:List Int}{p q:Nat}{lit dist:List Int}(h:HeadR bs p lit dist 0 q):CodeOk lit∧CodeOk dist∧p < q:=by
 unfold HeadR at h
 split at h
 ·exact absurd h.2.2 (by decide)
 ·split at h
  ·exact absurd h.2.2 (by decide)
  ·split at h
   ·exact absurd h.2.2 (by decide)
   ·split at h
    ·exact absurd h.2.2 (by decide)
    ·obtain ⟨row,q',f,hr,h⟩:=h
     split at h
     ·split at h
      ·rename_i hm
       obtain ⟨rfl,rfl,_,rfl⟩:=h
       have hle:=hr.le
       unfold mayB at hm
       obtain ⟨h4,h5⟩:=Bool.and_eq_true_iff.1 hm
       obtain ⟨_,h6⟩:=Bool.and_eq_true_iff.1 h4
       have a:=mayL_of (.inl h6)
       have b:=mayL_of (show fullB _=true∨kindA _=1 from by
        rcases Bool.or_eq_true_iff.1 h5 with h | h
        ·exact .inl h
        ·exact .inr (of_decide_eq_true h))
       exact ⟨⟨a.2.1,a.1,a.2.2⟩,⟨b.2.1,b.1,b.2.2⟩,by omega⟩
      ·exact absurd h.2.2 (by decide)
     ·rename_i hf
      exact absurd h.2.2.symm hf
theorem endM_ok (l:Bool):(endM l).ok:=by cases l <;> trivial
theorem ItemR.next {bs:List Int}{most p:Nat}{m:Md}{last:Bool}{out:List Int}{p1:Nat}{m1:Md}{l1:Bool}{o1:List Int}(hm:m.ok)(h:ItemR bs most p m last out 0 p1 m1 l1 o1):m1.ok∧p < p1:=by
 cases m with
 | fin=>exact h.elim
 | block=>
  unfold ItemR at h
  simp only at h
  split at h
  ·exact absurd h (by decide)
  ·split at h
   ·obtain ⟨_,rfl,rfl,_⟩:=h;exact ⟨trivial,by omega⟩
   ·split at h
    ·obtain ⟨_,rfl,rfl,_⟩:=h;exact ⟨⟨fixL_ok,fixD_ok⟩,by omega⟩
    ·split at h
     ·obtain ⟨_,rfl,rfl,_⟩:=h;exact ⟨trivial,by omega⟩
     ·exact absurd h (by decide)
 | stored=>
  unfold ItemR at h
  simp only at h
  split at h
  ·exact absurd h (by decide)
  ·split at h
   ·exact absurd h (by decide)
   ·obtain ⟨_,rfl,rfl,_⟩:=h
    refine ⟨?_,by unfold up8;omega⟩
    split
    ·exact endM_ok _
    ·trivial
 | bytes n=>
  unfold ItemR at h
  simp only at h
  split at h
  ·exact absurd h (by decide)
  ·split at h
   ·exact absurd h (by decide)
   ·obtain ⟨_,rfl,rfl,_⟩:=h
    refine ⟨?_,by omega⟩
    split
    ·exact endM_ok _
    ·trivial
 | head=>
  unfold ItemR at h
  simp only at h
  obtain ⟨lit,dist,f,q,hh,h⟩:=h
  split at h
  ·rename_i hf
   obtain ⟨_,rfl,rfl,_⟩:=h
   rw [hf] at hh
   exact ⟨⟨(head_code hh).1,(head_code hh).2.1⟩,(head_code hh).2.2⟩
  ·rename_i hf
   exact absurd h.symm hf
 | sym lit dist=>
  unfold ItemR at h
  simp only at h
  obtain ⟨s,f,q,hh,h⟩:=h
  split at h
  ·rename_i hf
   exact absurd h.symm hf
  ·rename_i hf
   have hq:=hh.le.2 (Classical.not_not.1 hf)
   split at h
   ·split at h
    ·obtain ⟨_,rfl,rfl,_⟩:=h;exact ⟨hm,by omega⟩
    ·exact absurd h (by decide)
   ·split at h
    ·obtain ⟨_,rfl,rfl,_⟩:=h;exact ⟨endM_ok _,by omega⟩
    ·split at h
     ·exact absurd h (by decide)
     ·split at h
      ·exact absurd h (by decide)
      ·obtain ⟨d,g,r,hd,h⟩:=h
       have hr:=hd.le.1
       split at h
       ·rename_i hg
        exact absurd h.symm hg
       ·split at h
        ·exact absurd h (by decide)
        ·split at h
         ·exact absurd h (by decide)
         ·split at h
          ·exact absurd h (by decide)
          ·split at h
           ·exact absurd h (by decide)
           ·obtain ⟨_,rfl,rfl,_⟩:=h;exact ⟨hm,by omega⟩
theorem Steps.ok {bs:List Int}{most p p1:Nat}{m m1:Md}{l l1:Bool}{o o1:List Int}(h:Steps bs most p m l o p1 m1 l1 o1)(hm:m.ok):m1.ok∧p≤p1:=by
 induction h with
 | refl=>exact ⟨hm,Nat.le_refl _⟩
 | step a _ ih=>have b:=a.next hm;have c:=ih b.1;exact ⟨c.1,by omega⟩
def Stuck (bs:List Int)(most p:Nat)(m:Md)(l:Bool)(o:List Int):Prop:=m = .fin∨∃ (e:Int) (p1:Nat) (m1:Md) (l1:Bool) (o1:List Int),e≠0∧ItemR bs most p m l o e p1 m1 l1 o1
theorem Stuck.no {bs:List Int}{most p p1:Nat}{m m1:Md}{l l1:Bool}{o o1:List Int}(h:Stuck bs most p m l o)(hm:m.ok)(hi:ItemR bs most p m l o 0 p1 m1 l1 o1):False:=by
 rcases h with rfl | ⟨e,p2,m2,l2,o2,he,h2⟩
 ·exact hi.elim
 ·exact he (ItemR.det hm h2 hi).1
theorem Steps.det {bs:List Int}{most p p1 p2:Nat}{m m1 m2:Md}{l l1 l2:Bool}{o o1 o2:List Int}(h:Steps bs most p m l o p1 m1 l1 o1)(hm:m.ok)(hs:Stuck bs most p1 m1 l1 o1)(h2:Steps bs most p m l o p2 m2 l2 o2)(hs2:Stuck bs most p2 m2 l2 o2):p1=p2∧m1=m2∧l1=l2∧o1=o2:=by
 induction h with
 | refl=>
  cases h2 with
  | refl=>exact ⟨rfl,rfl,rfl,rfl⟩
  | step a _=>exact (hs.no hm a).elim
 | step a _ ih=>
  cases h2 with
  | refl=>exact (hs2.no hm a).elim
  | step b hb=>
   obtain ⟨_,e⟩:=ItemR.det hm a b
   obtain ⟨rfl,rfl,rfl,rfl⟩:=e rfl
   exact ih (a.next hm).1 hs hb
theorem copyN_ex (d:Nat):∀ (k:Nat) (bs:List Int),∃ x,copyN d k bs=bs++x∧x.length=k:=by
 intro k
 induction k with
 | zero=>intro bs;exact ⟨[],by simp [copyN],rfl⟩
 | succ k ih=>
  intro bs
  obtain ⟨x,hx,hl⟩:=ih bs
  exact ⟨x++[(copyN d k bs).getD ((copyN d k bs).length - d) 0],by rw [copyN,hx,List.append_assoc],by rw [List.length_append,hl];rfl⟩
theorem copyN_app (d:Nat):∀ (k:Nat) (pre wnd:List Int),1≤d→d≤wnd.length→copyN d k (pre++wnd)=pre++copyN d k wnd:=by
 intro k
 induction k with
 | zero=>intro pre wnd _ _;rfl
 | succ k ih=>
  intro pre wnd h1 h2
  rw [copyN,copyN,ih pre wnd h1 h2,List.append_assoc]
  have hl:=copyN_len d k wnd
  have e:(pre++copyN d k wnd).getD ((pre++copyN d k wnd).length - d) 0=(copyN d k wnd).getD ((copyN d k wnd).length - d) 0:=by
   unfold List.getD
   rw [List.length_append,List.getElem?_append_right (by omega)]
   congr 2;omega
  rw [e]
def upTo (L:List Int)(j:Nat):List Int:=L.take j++List.replicate (L.length - j) 0
theorem upTo_zero (L:List Int):upTo L 0=List.replicate L.length 0:=by simp [upTo]
theorem upTo_all (L:List Int):upTo L L.length=L:=by simp [upTo]
theorem upTo_len (L:List Int)(j:Nat)(h:j≤L.length):(upTo L j).length=L.length:=by simp [upTo];omega
theorem upTo_step (L:List Int)(j:Nat)(h:j < L.length):(upTo L j).set j (L.getD j 0)=upTo L (j+1):=by
 apply List.ext_getElem?
 intro i
 unfold upTo
 by_cases hi:i=j
 ·subst hi
  rw [List.getElem?_set_self (by simp;omega),List.getElem?_append_left (by simp;omega),List.getElem?_take,if_pos (by omega),List.getElem?_eq_getElem h]
  simp [List.getD,h]
 ·rw [List.getElem?_set_ne (by omega)]
  by_cases hij:i < j
  ·rw [List.getElem?_append_left (by simp;omega),List.getElem?_append_left (by simp;omega),List.getElem?_take,List.getElem?_take,if_pos hij,if_pos (by omega)]
  ·rw [List.getElem?_append_right (by simp;omega),List.getElem?_append_right (by simp;omega)]
   simp only [List.length_take,List.getElem?_replicate]
   by_cases hil:i < L.length
   ·rw [if_pos (by omega),if_pos (by omega)]
   ·rw [if_neg (by omega),if_neg (by omega)]
theorem fixD_len:fixD.length=32:=by decide +kernel
theorem fixL_get:∀ j,j < 288→fixL.getD j 0=if j < 144 then 8 else if j < 256 then 9 else if j < 280 then 7 else 8:=by decide +kernel
theorem fixD_get:∀ j,j < 32→fixD.getD j 0=5:=by decide +kernel
def OwnZ (w:World)(G n:Nat)(L:List Int):Prop:=w.ownsRow 0 3 1 (.slice (some ⟨G,0,none⟩) n n) n (L.map (.int .i64))
theorem OwnZ.reads {w:World}{G n:Nat}{L:List Int}(h:OwnZ w G n L)(hl:L.length=n):RdI w w.heap.size (some ⟨G,0,none⟩) L:=by
 subst hl
 exact own_readsI h rfl
theorem OwnZ.set {w:World}{G n j:Nat}{L:List Int}(h:OwnZ w G n (upTo L j))(hj:j < L.length)(z:Int)(hz:L.getD j 0=z):OwnZ (w.setCell ⟨G,j,none⟩ (.int .i64 z)) G n (upTo L (j+1)):=by
 subst hz
 obtain ⟨s1,s2⟩:=World.ownsRow.stored h j (.int .i64 (L.getD j 0))
 rw [← List.map_set,upTo_step L j hj] at s1
 exact s1
structure TwoZ (w0 w:World)(G n H m:Nat)(L M:List Int):Prop where
 a:OwnZ w G n L
 b:OwnZ w H m M
 k:Kept NoB w0 w
 g:w0.heap.size≤G
 h:w0.heap.size≤H
 ne:G≠H
theorem TwoZ.from {w0 w:World}{G n H m:Nat}{L M:List Int}(h:TwoZ w0.drew w G n H m L M):TwoZ w0 w G n H m L M:=⟨h.a,h.b,(Kept.refl NoB w0).drew.trans h.k,h.g,h.h,h.ne⟩
theorem TwoZ.swap {w0 w:World}{G n H m:Nat}{L M:List Int}(h:TwoZ w0 w G n H m L M):TwoZ w0 w H m G n M L:=⟨h.b,h.a,h.k,h.h,h.g,fun e=>h.ne e.symm⟩
theorem make_one (w:World)(n:Nat)(hn:n≤100000):∃ w',(Instr.makeSlice 30 (.int .i64 (n:Int)) (.int .i64 (n:Int))).run Tryz.prog w = .ok (.slice (some ⟨w.heap.size,0,none⟩) n n) w'∧OwnZ w' w.heap.size n (List.replicate n 0)∧Kept NoB w w':=by
 obtain ⟨i0,hi,hz0,hz1,hz2⟩:=info_parts infoI
 obtain ⟨w',hr,ho,hg⟩:=run_make_full (P:=Tryz.prog) w 0 30 3 i0 (.int .i64 0) 1 Tryz.underlying30 hi hz0 hz1 .i64 .i64 n (by rw [hz2];omega) (by unfold maxLen;omega) (Nat.zero_le _)
 have e:(madeCells (Value.int .i64 0).cells (n*1)).toList=List.replicate n (Value.int .i64 0):=by rw [Nat.mul_one];exact toList_madeCells_one ..
 rw [e] at ho
 refine ⟨w',hr,?_,(Kept.refl _ _).grown hg (fun k _ e=>by cases e)⟩
 unfold OwnZ
 rw [List.map_replicate]
 exact ho
theorem make_two (w:World)(n m:Nat)(hn:n≤100000)(hm:m≤100000):∃ w1 w2,(Instr.makeSlice 30 (.int .i64 (n:Int)) (.int .i64 (n:Int))).run Tryz.prog w = .ok (.slice (some ⟨w.heap.size,0,none⟩) n n) w1∧
  (Instr.makeSlice 30 (.int .i64 (m:Int)) (.int .i64 (m:Int))).run Tryz.prog w1 = .ok (.slice (some ⟨w1.heap.size,0,none⟩) m m) w2∧TwoZ w w2 w.heap.size n w1.heap.size m (List.replicate n 0) (List.replicate m 0):=by
 obtain ⟨w1,r1,o1,k1⟩:=make_one w n hn
 obtain ⟨w2,r2,o2,k2⟩:=make_one w1 m hm
 have hl:w.heap.size < w1.heap.size:=own_lt o1 _ rfl
 exact ⟨w1,w2,r1,r2,k2.row o1 (fun _ _ e=>e),o2,k1.trans k2,Nat.le_refl _,by omega,by omega⟩
theorem fixed_any (w:World):Calls Tryz.prog 61 #[] w fun e w'=>∃ G H,e = .returned (.tuple #[.slice (some ⟨G,0,none⟩) 288 288,.slice (some ⟨H,0,none⟩) 32 32])∧TwoZ w w' G 288 H 32 fixL fixD:=by
 obtain ⟨wa,wb,ra,rb,tab⟩:=make_two w.drew 288 32 (by decide) (by decide)
 obtain ⟨wc,wd,rc,rd,tcd⟩:=make_two w.drew 32 288 (by decide) (by decide)
 have T1:=Hd tab;have T2:=Hd tcd
 have ra:(Instr.makeSlice 30 (.int .i64 288) (.int .i64 288)).run Tryz.prog w.drew = .ok (.slice (some ⟨w.heap.size,0,none⟩) 288 288) wa:=ra
 have rb:(Instr.makeSlice 30 (.int .i64 32) (.int .i64 32)).run Tryz.prog wa = .ok (.slice (some ⟨wa.heap.size,0,none⟩) 32 32) wb:=rb
 have rc:(Instr.makeSlice 30 (.int .i64 32) (.int .i64 32)).run Tryz.prog w.drew = .ok (.slice (some ⟨w.heap.size,0,none⟩) 32 32) wc:=rc
 have rd:(Instr.makeSlice 30 (.int .i64 288) (.int .i64 288)).run Tryz.prog wc = .ok (.slice (some ⟨wc.heap.size,0,none⟩) 288 288) wd:=rd
 clear tab tcd
 go_enter Tryz.func61,Tryz.ntmps61
 go_upto_region 1 with fail
 go_cut [0,1] from 4 to 5 (fun s t wx=>∃ G H,s = .slice (some ⟨G,0,none⟩) 288 288∧t = .slice (some ⟨H,0,none⟩) 32 32∧TwoZ w wx G 288 H 32 (List.replicate 288 0) (List.replicate 32 0))
 case first=>
  go_region
  all_goals go_wp2
  all_goals go_meet
  ·exact ⟨_,_,rfl,rfl,T1.out.from⟩
  ·exact ⟨_,_,rfl,rfl,T2.out.swap.from⟩
 case rest=>
  obtain ⟨G,H,rfl,rfl,hT⟩:=hcut
  have HA:=Hd hT.a;have HB:=Hd hT.b;have HK:=Hd hT.k;have HG:=Hd hT.g;have HH:=Hd hT.h;have HN:=Hd hT.ne
  clear hT ra rb rc rd T1 T2
  have hGH:¬ G=H:=HN.out
  have hHG:¬ H=G:=fun e=>HN.out e.symm
  go_wp2_with fail
  go_loopw [2,8] (fun _u i wr=>∃ j:Nat,j≤288∧i = .int .i64 j∧Hid (OwnZ wr G 288 (upTo fixL j))∧Hid (OwnZ wr H 32 (List.replicate 32 0))∧Hid (Kept NoB w wr)) (fun _ i _=>288 - (intOf i).toNat)
  case atStart=>exact ⟨0,by omega,rfl,by rw [upTo_zero,fixL_len];exact HA.out,HB,HK⟩
  case round=>
   clear HA HB HK
   obtain ⟨j,hj,rfl,HA,HB,HK⟩:=hrel
   by_cases hlt:(j:Int) < 288
   ·have hg:=fixL_get j (by omega)
    obtain ⟨z,hz⟩:∃ z,z=fixL.getD j 0:=⟨_,rfl⟩
    have hud:∃ u,wr.cell? ⟨G,j,none⟩=some u:=by
     rw [HA.out.cellAt j (by omega)]
     exact ⟨_,List.getElem?_eq_getElem (by rw [List.length_map,upTo_len _ _ (by rw [fixL_len];omega),fixL_len];omega)⟩
    obtain ⟨u,hu⟩:=hud
    have hfd:=World.ownsRow.frozenAt HA.out j
    have HA2:=Hd (HA.out.set (by rw [fixL_len];omega) z hz.symm)
    have hk1:Kept (OneB G) wr (wr.setCell ⟨G,j,none⟩ (.int .i64 z)):=Kept.setCell (S:=OneB G) (p:=⟨G,j,none⟩) (Kept.refl _ wr) (.inl rfl) _
    have HB2:=Hd (show OwnZ (wr.setCell ⟨G,j,none⟩ (.int .i64 z)) H 32 (List.replicate 32 0) from hk1.row HB.out (fun k e1 e2=>by
     simp [Value.ownBlock] at e1
     unfold OneB at e2;omega))
    have HK2:=Hd (show Kept NoB w (wr.setCell ⟨G,j,none⟩ (.int .i64 z)) from Kept.setCell (p:=⟨G,j,none⟩) HK.out (.inr HG.out) _)
    rw [← hz] at hg
    clear hz hk1
    by_cases h1:(j:Int) < 144
    ·obtain rfl:z=8:=by rw [hg,if_pos (by omega)]
     clear hg
     go_wp2
     go_roundw
     case rel=>exact ⟨j+1,by omega,by go_num,HA2,HB2,HK2⟩
     case measure=>simp [intOf];omega
    ·by_cases h2:(j:Int) < 256
     ·obtain rfl:z=9:=by rw [hg,if_neg (by omega),if_pos (by omega)]
      clear hg
      go_wp2
      go_roundw
      case rel=>exact ⟨j+1,by omega,by go_num,HA2,HB2,HK2⟩
      case measure=>simp [intOf];omega
     ·by_cases h3:(j:Int) < 280
      ·obtain rfl:z=7:=by rw [hg,if_neg (by omega),if_neg (by omega),if_pos (by omega)]
       clear hg
       go_wp2
       go_roundw
       case rel=>exact ⟨j+1,by omega,by go_num,HA2,HB2,HK2⟩
       case measure=>simp [intOf];omega
      ·obtain rfl:z=8:=by rw [hg,if_neg (by omega),if_neg (by omega),if_neg (by omega)]
       clear hg
       go_wp2
       go_roundw
       case rel=>exact ⟨j+1,by omega,by go_num,HA2,HB2,HK2⟩
       case measure=>simp [intOf];omega
   ·obtain rfl:j=288:=by omega
    have HA1:Hid (OwnZ wr G 288 fixL):=by
     have:=HA.out
     rw [show (288:Nat)=fixL.length from fixL_len.symm,upTo_all,fixL_len] at this
     exact this
    clear HA
    go_wp2_with fail
    go_loopw [3,35] (fun _u i wq=>∃ j:Nat,j≤32∧i = .int .i64 j∧Hid (OwnZ wq G 288 fixL)∧Hid (OwnZ wq H 32 (upTo fixD j))∧Hid (Kept NoB w wq)) (fun _ i _=>32 - (intOf i).toNat)
    case atStart=>exact ⟨0,by omega,rfl,HA1,by rw [upTo_zero,fixD_len];exact HB,HK⟩
    case round=>
     clear HA1 HB HK
     obtain ⟨j,hj,rfl,HA,HB,HK⟩:=hrel
     by_cases hlt:(j:Int) < 32
     ·have hg:=fixD_get j (by omega)
      have hud:∃ u,wr.cell? ⟨H,j,none⟩=some u:=by
       rw [HB.out.cellAt j (by omega)]
       exact ⟨_,List.getElem?_eq_getElem (by rw [List.length_map,upTo_len _ _ (by rw [fixD_len];omega),fixD_len];omega)⟩
      obtain ⟨u,hu⟩:=hud
      have hfd:=World.ownsRow.frozenAt HB.out j
      have HB2:=Hd (HB.out.set (by rw [fixD_len];omega) 5 hg)
      have hk1:Kept (OneB H) wr (wr.setCell ⟨H,j,none⟩ (.int .i64 5)):=Kept.setCell (S:=OneB H) (p:=⟨H,j,none⟩) (Kept.refl _ wr) (.inl rfl) _
      have HA2:=Hd (show OwnZ (wr.setCell ⟨H,j,none⟩ (.int .i64 5)) G 288 fixL from hk1.row HA.out (fun k e1 e2=>by
       simp [Value.ownBlock] at e1
       unfold OneB at e2;omega))
      have HK2:=Hd (show Kept NoB w (wr.setCell ⟨H,j,none⟩ (.int .i64 5)) from Kept.setCell (p:=⟨H,j,none⟩) HK.out (.inr HH.out) _)
      clear hg hk1
      go_wp2
      go_roundw
      case rel=>exact ⟨j+1,by omega,by go_num,HA2,HB2,HK2⟩
      case measure=>simp [intOf];omega
     ·obtain rfl:j=32:=by omega
      have HB1:Hid (OwnZ wr H 32 fixD):=by
       have:=HB.out
       rw [show (32:Nat)=fixD.length from fixD_len.symm,upTo_all,fixD_len] at this
       exact this
      clear HB
      go_wp2
      go_ret2
      exact ⟨G,H,rfl,HA.out,HB1.out,HK.out,HG.out,HH.out,HN.out⟩
end Go.Proofs.YtfmjfgmbjdhogaaGreatDoor
