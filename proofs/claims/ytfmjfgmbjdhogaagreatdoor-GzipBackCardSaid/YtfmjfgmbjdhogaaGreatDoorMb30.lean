import Derived.Test.YtfmjfgmbjdhogaaGreatDoorMb29
set_option linter.unusedVariables false
set_option linter.unusedSimpArgs false
set_option maxRecDepth 20000
set_option maxHeartbeats 8000000
namespace Go.Proofs.YtfmjfgmbjdhogaaGreatDoor
open Go.RowKit
def BlkBest (w:World)(R:Nat)(ao:Option Addr)(cap:Nat)(bs:List Int)(s:Nat)(last:Bool)(b:List Int)(ts:List Tk)(e:Ending)(w':World):Prop:=
 ∃ qs ao' cap' bs',e = .returned (.tuple #[])∧WroteP w R (.slice ao bs.length cap) bs s qs w' ao' cap' bs'∧wdN qs≤wdN (storedW last (up8 (s+3) - (s+3)) b)∧
  (qs=storedW last (up8 (s+3) - (s+3)) b∨(∃ ws,TokWs fixL fixD ts ws∧qs=[(lastN last,1),(1,2)]++(ws++[wordZ fixL 256])) ∨
   (∃ lit dist code told rs ws,CodeOk lit∧CodeOk dist∧HasC lit 256∧headB lit dist=true∧CodeW code told rs (lit++dist)∧TokWs lit dist ts ws∧qs=[(lastN last,1),(2,2)]++(headW lit dist code told rs++(ws++[wordZ lit 256]))))
theorem writeBest_any (w:World)(R:Nat)(ao:Option Addr)(cap:Nat)(bs:List Int)(s:Nat)(last:Bool)(ba:Option Addr)(bc:Nat)(b:List Int)(ta:Option Addr)(tc:Nat)(ts:List Tk)
  (h:Wtr w R ao cap bs s) (hss:s≤800000) (hrb:Reads w ba b) (hab:AllB b) (hbl:b.length≤65535) (hsb:b≠[]→∀ a,ba=some a→a.block≠R∧(Value.slice ao bs.length cap).ownBlock≠some a.block)
  (hrt:Toks w ta ts) (hst:ts≠[]→∀ a,ta=some a→a.block≠R∧(Value.slice ao bs.length cap).ownBlock≠some a.block) (htl:ts.length≤800000) (hwf:AllT ts) (hok:allOkB ts=true):
  Calls Tryz.prog 53 #[.pointer (some ⟨R,0,none⟩),.slice ba b.length bc,.slice ta ts.length tc,.bool last] w (BlkBest w R ao cap bs s last b ts):=by
 have hto:=lensOk_tally ts (by omega)
 have htb:=tally_b2 ts
 obtain ⟨L,hL⟩:∃ L,L=b.length:=⟨_,rfl⟩
 obtain ⟨s3,h3⟩:∃ x,x=s+3:=⟨_,rfl⟩
 obtain ⟨s10,h10⟩:∃ x,x=s3+7:=⟨_,rfl⟩
 obtain ⟨Q,hQ⟩:∃ x,x=s10 / 8:=⟨_,rfl⟩
 obtain ⟨Q8,hQ8⟩:∃ x,x=Q*8:=⟨_,rfl⟩
 obtain ⟨U,hU⟩:∃ x,x=Q8+32:=⟨_,rfl⟩
 obtain ⟨L8,hL8⟩:∃ x,x=8*L:=⟨_,rfl⟩
 obtain ⟨V,hV⟩:∃ x,x=U+L8:=⟨_,rfl⟩
 obtain ⟨st,hstq⟩:∃ x,x=V - s:=⟨_,rfl⟩
 have hLb:L≤65535:=by omega
 have a1:IntKind.i64.wrap ((s:Int)+3)=(s3:Int):=by rw [IntWalk.i64_in _ (by omega)];omega
 have a2:IntKind.i64.wrap ((s3:Int)+7)=(s10:Int):=by rw [IntWalk.i64_in _ (by omega)];omega
 have a3:(s10:Int).tdiv 8=(Q:Int):=by rw [Int.tdiv_eq_ediv_of_nonneg (by omega)];omega
 have a3':(s10:Int) / 8=(Q:Int):=by omega
 have HStw:Hid (st=wdN (storedW last (up8 (s+3) - (s+3)) b)):=Hd (by
  unfold storedW
  rw [wdN_append,bytesW_wd]
  simp only [wdN]
  unfold up8;omega)
 have hQb:Q≤110000:=by omega
 have HStE:Hid ((st:Int)=(Q:Int)*8+32+8*(L:Int) - (s:Int)):=Hd (by omega)
 have H:=Hd h;have HRb:=Hd hrb;have HAb:=Hd hab;have HSb:=Hd hsb;have HRt:=Hd hrt;have HSt:=Hd hst;have HTl:=Hd htl;have HWf:=Hd hwf;have HOk:=Hd hok;have HTo:=Hd hto;have HTb:=Hd htb;have HL:=Hd hL
 rw [← hL]
 clear h hrb hab hbl hsb hrt hst htl hwf hok hto htb hL h3 h10 hQ hQ8 hU hL8 hV hstq
 go_enter Tryz.func53,Tryz.ntmps53
 go_wp2_with fail
 refine (wlen_any _ _ _ _ _ _ H.out).mono ?_
 rintro e w1 ⟨rfl,hk1⟩
 have HK1:=Hd hk1
 clear hk1
 go_wp2_with fail
 refine (wlen_any _ _ _ _ _ _ (H.out.keptNo HK1.out)).mono ?_
 rintro e w2 ⟨rfl,hk2⟩
 have HK2:=Hd (HK1.out.trans hk2)
 have HCn:=Hd (counts_any2 ta tc ts w2 (HRt.out.keptNo HK2.out) (by have:=HTl.out;omega) HWf.out)
 clear hk2 HK1
 go_wp2_with fail
 refine HCn.out.mono ?_
 rintro e w3 ⟨G,Hh,rfl,hT⟩
 have HG:=Hd (hT.a.reads HTb.out.1);have HH:=Hd (hT.b.reads HTb.out.2.1);have HK3:=Hd (HK2.out.trans hT.k)
 have HEx:=Hd (extraBits_any w3 G Hh (tally ts).1 (tally ts).2 HG.out HH.out HTb.out.1 HTb.out.2.1 HTo.out.1.small HTo.out.2.small)
 clear hT HCn HK2 a1 a2 a3 a3'
 go_wp2_with fail
 refine HEx.out.mono ?_
 rintro e w4 ⟨X,rfl,hX,hXb,rfl⟩
 have HX:=Hd hX
 clear hX HEx
 go_wp2_with fail
 refine (fixed_any w3).mono ?_
 rintro e w5 ⟨F1,F2,rfl,hT⟩
 have hf1:=hT.a.reads fixL_len;have hf2:=hT.b.reads fixD_len
 have hsm1:Small 1048576 fixL:=fun z hz=>by have:=fixL_ok.2.1 z hz;omega
 have hsm2:Small 1048576 fixD:=fun z hz=>by have:=fixD_ok.2.1 z hz;omega
 have ht1:Small 1048576 (tally ts).1:=fun z hz=>by have:=HTo.out.1.small z hz;omega
 have ht2:Small 1048576 (tally ts).2:=fun z hz=>by have:=HTo.out.2.small z hz;omega
 have c1':=cost_le (tally ts).1 fixL 1000000 15 (by decide) (by decide) HTo.out.1.small fixL_ok.2.1
 have c2':=cost_le (tally ts).2 fixD 1000000 15 (by decide) (by decide) HTo.out.2.small fixD_ok.2.1
 rw [HTb.out.1] at c1'
 rw [HTb.out.2.1] at c2'
 obtain ⟨k1,hk1⟩:∃ k1:Nat,costL (tally ts).1 fixL=(k1:Int):=⟨(costL (tally ts).1 fixL).toNat,by omega⟩
 obtain ⟨k2,hk2⟩:∃ k2:Nat,costL (tally ts).2 fixD=(k2:Int):=⟨(costL (tally ts).2 fixD).toNat,by omega⟩
 rw [hk1] at c1'
 rw [hk2] at c2'
 have HC1:Hid (∀ W,Kept NoB w5 W→Calls Tryz.prog 92 #[.slice (some ⟨G,0,none⟩) 286 286,.slice (some ⟨F1,0,none⟩) 288 288] W fun e w'=>e = .returned (.int .i64 (k1:Int))∧Kept NoB W w'):=Hd fun W hk=>by
  have h:=cost_calls (some ⟨G,0,none⟩) (some ⟨F1,0,none⟩) 286 288 _ _ (tally ts).1 fixL W (HG.out.keptNo (hT.k.trans hk)) (hf1.keptNo hk) ht1 hsm1 (by rw [HTb.out.1];omega) (by rw [fixL_len];omega)
  rw [HTb.out.1,fixL_len,hk1] at h
  exact h
 have HC2:Hid (∀ W,Kept NoB w5 W→Calls Tryz.prog 92 #[.slice (some ⟨Hh,0,none⟩) 30 30,.slice (some ⟨F2,0,none⟩) 32 32] W fun e w'=>e = .returned (.int .i64 (k2:Int))∧Kept NoB W w'):=Hd fun W hk=>by
  have h:=cost_calls (some ⟨Hh,0,none⟩) (some ⟨F2,0,none⟩) 30 32 _ _ (tally ts).2 fixD W (HH.out.keptNo (hT.k.trans hk)) (hf2.keptNo hk) ht2 hsm2 (by rw [HTb.out.2.1];omega) (by rw [fixD_len];omega)
  rw [HTb.out.2.1,fixD_len,hk2] at h
  exact h
 have Hk1:=Hd hk1;have Hk2:=Hd hk2;have HK5:=Hd hT.k
 clear hf1 hf2 hsm1 hsm2 ht1 ht2 hT hk1 hk2
 go_wp2_with fail
 refine (HC1.out _ (Kept.refl _ _)).mono ?_
 rintro e w6 ⟨rfl,hk6⟩
 have HK6:=Hd hk6
 clear hk6
 go_wp2_with fail
 refine (HC2.out _ HK6.out).mono ?_
 rintro e w7 ⟨rfl,hk7⟩
 have HK7:=Hd (HK5.out.trans (HK6.out.trans hk7))
 have HDb:=Hd (dynBits_any w7 G Hh ts (HG.out.keptNo HK7.out).room (HH.out.keptNo HK7.out).room (by have:=HTl.out;omega))
 clear hk7 HC1 HC2 HK5 HK6
 go_wp2_with fail
 refine HDb.out.mono ?_
 rintro e w8 ⟨lit,dist,code,told,rs,N,hb1,hb2,hcw,hhf,rfl,hN,hNb,hk8⟩
 have HB1:=Hd hb1;have HB2:=Hd hb2;have HCw:=Hd hcw;have HHf:=Hd hhf;have HN:=Hd hN
 have HK8:=Hd (HK3.out.trans (HK7.out.trans hk8))
 clear hb1 hb2 hcw hhf hN hk8 HDb HK7
 have hXe:(X:Int)=(extraS ts:Int):=by rw [HX.out];exact extra_tally HWf.out HOk.out
 have HXe:=Hd hXe
 have hw8:=H.out.keptNo HK8.out
 have hr8:=HRt.out.keptNo HK8.out
 have hcS:=stored_yes2 w8 R ao cap bs s last ba bc b hw8 (by omega) (HRb.out.kept HK8.out (fun _ _ e=>e)) HAb.out (by have:=HL.out;omega) HSb.out
 have hcF:=fixedBlock_yes w8 R ao cap bs s last ta tc ts hw8 (by omega) hr8 HSt.out (by have:=HTl.out;omega) HWf.out HOk.out
 have hcD:=dynamic_f w8 R ao cap bs s last ta tc ts hw8 (by omega) hr8 HSt.out (by have:=HTl.out;omega) HWf.out HOk.out
 rw [← HL.out] at hcS
 have HcS:=Hd hcS;have HcF:=Hd hcF;have HcD:=Hd hcD
 have hbase:∀ (qs:List (Nat × Nat)) (w':World) (a2:Option Addr) (c2:Nat) (b2:List Int),WroteP w8 R (.slice ao bs.length cap) bs s qs w' a2 c2 b2→WroteP w R (.slice ao bs.length cap) bs s qs w' a2 c2 b2:=fun _ _ _ _ _ h=>h.base HK8.out
 have HBase:=Hd hbase
 clear hXe hw8 hr8 hcS hcF hcD hbase
 by_cases hA:(Q:Int)*8+32+8*(L:Int) - (s:Int)≤3+(k1:Int)+(k2:Int)+(X:Int)∧(Q:Int)*8+32+8*(L:Int) - (s:Int)≤(N:Int)+(X:Int)
 ·obtain ⟨hA1,hA2⟩:=hA
  go_wp2_with fail
  refine HcS.out.mono ?_
  rintro e w9 ⟨a2,c2,b2,rfl,hW⟩
  have hW2:=HBase.out _ _ _ _ _ hW
  have HW2:=Hd hW2
  clear hW hW2
  go_wp2
  refine bodyPost_end (results_none rfl _ _ _) rfl ?_
  exact ⟨_,a2,c2,b2,rfl,HW2.out,Nat.le_refl _,.inl rfl⟩
 ·have hway:(¬ (Q:Int)*8+32+8*(L:Int) - (s:Int)≤3+(k1:Int)+(k2:Int)+(X:Int))∨((Q:Int)*8+32+8*(L:Int) - (s:Int)≤3+(k1:Int)+(k2:Int)+(X:Int)∧¬ (Q:Int)*8+32+8*(L:Int) - (s:Int)≤(N:Int)+(X:Int)):=by omega
  have HA:=Hd hA
  clear hA
  by_cases hC:3+(k1:Int)+(k2:Int)+(X:Int)≤(N:Int)+(X:Int)
  ·have hC2:3+(k1:Int)+(k2:Int)≤(N:Int):=by omega
   have h1:¬ (Q:Int)*8+32+8*(L:Int) - (s:Int)≤3+(k1:Int)+(k2:Int)+(X:Int):=by omega
   clear hway
   all_goals
    go_wp2_with fail
    refine HcF.out.mono ?_
    rintro e w9 ⟨ws,a2,c2,b2,rfl,hws,hW⟩
    have HW2:=Hd (HBase.out _ _ _ _ _ hW)
    have hwd:=wd_cost hws HOk.out (fixL_has 256 (by omega))
    rw [Hk1.out,Hk2.out] at hwd
    have HWd:=Hd hwd;have HWs:=Hd hws
    clear hW hws hwd
    go_wp2
    refine bodyPost_end (results_none rfl _ _ _) rfl ?_
    refine ⟨_,a2,c2,b2,rfl,HW2.out,?_,.inr (.inl ⟨ws,HWs.out,rfl⟩)⟩
    rw [← HStw.out,wdN_append]
    have h3:=HWd.out
    have h4:=HXe.out
    have h5:=HA.out
    have h7:=HStE.out
    simp only [wdN]
    omega
  ·have hC2:¬ 3+(k1:Int)+(k2:Int)≤(N:Int):=by omega
   rcases hway with h1 | ⟨h1,h2⟩
   all_goals
    go_wp2_with fail
    refine HcD.out.mono ?_
    rintro e w9 ⟨lit2,dist2,code2,told2,rs2,ws,a2,c2,b2,rfl,hb1,hb2,hcw,hhf,hws,hW⟩
    obtain rfl:lit2=lit:=hb1.det HB1.out
    obtain rfl:dist2=dist:=hb2.det HB2.out
    obtain ⟨rfl,rfl,rfl⟩:=hhf.det hcw HHf.out HCw.out
    have HW2:=Hd (HBase.out _ _ _ _ _ hW)
    have hhd:=best_head (by have:=HTl.out;omega) hb1 hb2
    have hwd:=wd_cost hws HOk.out hhd.2.2.1
    have HWd:=Hd hwd;have HWs:=Hd hws;have HHd:=Hd hhd
    clear hW hws hwd hb1 hb2 hcw hhf hhd
    go_wp2
    refine bodyPost_end (results_none rfl _ _ _) rfl ?_
    refine ⟨_,a2,c2,b2,rfl,HW2.out,?_,.inr (.inr ⟨lit2,dist2,code2,told2,rs2,ws,HHd.out.1,HHd.out.2.1,HHd.out.2.2.1,HHd.out.2.2.2,HCw.out,HWs.out,rfl⟩)⟩
    rw [← HStw.out,wdN_append,wdN_append]
    have h3:=HWd.out
    have h4:=HXe.out
    have h5:=HA.out
    have h7:=HStE.out
    have h6:=HN.out
    simp only [wdN]
    omega
def slotN (W key:Nat):Nat:=key*11400714819323198485 % 18446744073709551616 / 2 ^ (64 - W)
theorem slot_lt (W key:Nat)(h:W≤64):slotN W key < 2 ^ W:=by
 unfold slotN
 rw [Nat.div_lt_iff_lt_mul (Nat.pow_pos (by omega)),← Nat.pow_add,show W+(64 - W)=64 by omega]
 exact Nat.mod_lt _ (by omega)
structure ChainP (slot:Nat→Nat)(H na:Nat)(hs bs:List Int):Prop where
 len:hs.length=H
 head:∀ s,s < H→hs.getD s 0=prevN slot s na
 back:∀ p,p < na→bs.getD p 0=prevN slot (slot p) p
theorem ChainP.start (slot:Nat→Nat)(H:Nat)(bs:List Int):ChainP slot H 0 (List.replicate H (-1)) bs:=
 ⟨by simp,fun s hs=>by simp [List.getD,hs,prevN],fun p hp=>by omega⟩
theorem ChainP.add {slot:Nat→Nat}{H na:Nat}{hs bs:List Int}(h:ChainP slot H na hs bs)(hn:na < bs.length)(hs':slot na < H):
  ChainP slot H (na+1) (hs.set (slot na) (na:Int)) (bs.set na (hs.getD (slot na) 0)):=by
 refine ⟨by simp [h.len],fun s hsH=>?_,fun p hp=>?_⟩
 ·rw [prevN]
  by_cases e:slot na=s
  ·subst e
   rw [if_pos rfl]
   simp [List.getD,h.len,hs']
  ·rw [if_neg e,← h.head s hsH]
   simp [List.getD,e]
 ·by_cases e:p=na
  ·subst e
   rw [← h.head (slot p) hs']
   simp [List.getD,hn]
  ·rw [← h.back p (by omega)]
   simp [List.getD,show na≠p by omega]
set_option maxRecDepth 100000 in
theorem slot_any (B f W key:Nat)(w:World)(hW:4≤W∧W≤16)(hk:key < 18446744073709551616)(c2:w.cell? ⟨B,f+2,none⟩=some (.int .i64 ((64 - W:Nat):Int))):
  Calls Tryz.prog 140 #[.pointer (some ⟨B,f,none⟩),.int .u64 (key:Int)] w fun e w'=>e = .returned (.int .u64 (slotN W key:Int))∧w'=w:=by
 obtain ⟨sh,hsh⟩:∃ sh,sh=64 - W:=⟨_,rfl⟩
 rw [← hsh] at c2
 have hm:IntKind.u64.wrap ((key:Int)*11400714819323198485)=((key*11400714819323198485 % 18446744073709551616:Nat):Int):=by rw [IntKind.wrap_u64];omega
 obtain ⟨M,hM⟩:∃ M,M=key*11400714819323198485 % 18446744073709551616:=⟨_,rfl⟩
 rw [← hM] at hm
 have hs1:48≤sh∧sh≤60:=by omega
 have hsl:slotN W key=M / 2 ^ sh:=by rw [slotN,hM,hsh]
 rw [hsl]
 clear hsh hM hsl
 go_enter Tryz.func140,Tryz.ntmps140
 go_wp2
 go_ret
 exact ⟨by simp,rfl⟩
def PlcAt (w:World)(g:Nat)(zs:List Int):Prop:=w.heap[g]?=some (.cells (zs.map (Value.int .i32)).toArray 21 (0,0))
theorem PlcAt.cell {w:World}{g:Nat}{zs:List Int}(h:PlcAt w g zs)(i:Nat)(hi:i < zs.length):w.cell? ⟨g,i,none⟩=some (.int .i32 (zs.getD i 0)):=by
 rw [obj_cell h i]
 simp [List.getD,hi]
theorem PlcAt.set {w:World}{g:Nat}{zs:List Int}(h:PlcAt w g zs)(i:Nat)(z:Int):PlcAt (w.setCell ⟨g,i,none⟩ (.int .i32 z)) g (zs.set i z):=by
 have:=obj_set h i (.int .i32 z)
 unfold PlcAt
 rw [this]
 congr 2
 simp [List.map_set]
theorem PlcAt.other {w:World}{g k:Nat}{zs:List Int}(h:PlcAt w g zs)(hne:k≠g)(i:Nat)(v:Value):PlcAt (w.setCell ⟨k,i,none⟩ v) g zs:=
 (Below.heap_setCell _ _ _ _ (fun e=>hne e.symm)).trans h
theorem PlcAt.keptS {S:Nat→Prop}{w w':World}{g:Nat}{zs:List Int}(h:PlcAt w g zs)(hk:Kept S w w')(hs:¬ S g):PlcAt w' g zs:=hk.obj h hs
structure ChAt (w:World)(B f W gh gb:Nat)(H K:Nat):Prop where
 c0:w.cell? ⟨B,f,none⟩=some (.slice (some ⟨gh,0,none⟩) H H)
 c1:w.cell? ⟨B,f+1,none⟩=some (.slice (some ⟨gb,0,none⟩) K K)
 c2:w.cell? ⟨B,f+2,none⟩=some (.int .i64 ((64 - W:Nat):Int))
theorem ChAt.keptS {S:Nat→Prop}{w w':World}{B f W gh gb H K:Nat}(h:ChAt w B f W gh gb H K)(hk:Kept S w w')(hs:¬ S B):ChAt w' B f W gh gb H K:=by
 have key:∀ i v,w.cell? ⟨B,i,none⟩=some v→w'.cell? ⟨B,i,none⟩=some v:=fun i v hc=>(World.cell?_of_block (hk.block _ (World.block_lt_of_cell? w _ hc) hs)).trans hc
 exact ⟨key _ _ h.c0,key _ _ h.c1,key _ _ h.c2⟩
set_option maxRecDepth 100000 in
theorem add_any (B f W gh gb K a key:Nat)(hs bs:List Int)(w:World)(hW:4≤W∧W≤16)(hk:key < 18446744073709551616)(hc:ChAt w B f W gh gb (2 ^ W) K)(hh:PlcAt w gh hs)(hb:PlcAt w gb bs)(hhl:hs.length=2 ^ W)(hbl:bs.length=K)(hK:K≤32768)(ha:a < K)(hne:gh≠gb)(hB1:gh≠B)(hB2:gb≠B)
  (hz : -1≤hs.getD (slotN W key) 0∧hs.getD (slotN W key) 0≤40000):
  Calls Tryz.prog 139 #[.pointer (some ⟨B,f,none⟩),.int .i64 (a:Int),.int .u64 (key:Int)] w fun e w'=>e = .returned (.tuple #[])∧Kept (TwoB gh gb) w w'∧PlcAt w' gh (hs.set (slotN W key) (a:Int))∧PlcAt w' gb (bs.set a (hs.getD (slotN W key) 0)):=by
 have HSl:=Hd (slot_any B f W key w hW hk hc.c2)
 have hsl:=slot_lt W key (by omega)
 obtain ⟨s,hse⟩:∃ s,s=slotN W key:=⟨_,rfl⟩
 obtain ⟨H,hH⟩:∃ H,H=2 ^ W:=⟨_,rfl⟩
 rw [← hse] at HSl hsl hz ⊢
 rw [← hH] at hsl hc hhl
 have hHb:H≤65536:=by rw [hH];exact (Nat.pow_le_pow_right (by omega) hW.2)
 obtain ⟨c0,c1,c2⟩:=hc
 have hz0:=hh.cell s (by omega)
 obtain ⟨z,hze⟩:∃ z,z=hs.getD s 0:=⟨_,rfl⟩
 rw [← hze] at hz hz0 ⊢
 have HB:=Hd hb;have HH:=Hd hh;have HBl:=Hd hbl;have HHl:=Hd hhl
 have kS:∀ i v W,w.cell? ⟨B,i,none⟩=some v→Kept (OneB gb) w W→W.cell? ⟨B,i,none⟩=some v:=fun i v W hc hk=>(World.cell?_of_block (hk.block _ (World.block_lt_of_cell? w _ hc) (fun e=>hB2 (by have:B=gb:=e;omega)))).trans hc
 have f0:∀ W,Kept (OneB gb) w W→W.cell? ⟨B,f,none⟩=some (.slice (some ⟨gh,0,none⟩) H H):=fun W hk=>kS f _ W c0 hk
 have f1:∀ W,Kept (OneB gb) w W→W.cell? ⟨B,f+1,none⟩=some (.slice (some ⟨gb,0,none⟩) K K):=fun W hk=>kS (f+1) _ W c1 hk
 have f2:∀ W,Kept (OneB gb) w W→W.cell? ⟨gh,s,none⟩=some (.int .i32 z):=fun W hk=>(World.cell?_of_block (hk.block _ (World.block_lt_of_cell? w _ hz0) (fun e=>hne e))).trans hz0
 have haK:(a:Int) < (K:Int):=by omega
 have hsH:(s:Int) < (H:Int):=by omega
 have hmod:(a:Int) % (K:Int)=(a:Int):=Int.emod_eq_of_lt (by omega) haK
 have hmod2:(a:Int).tmod (K:Int)=(a:Int):=by rw [Int.tmod_eq_emod_of_nonneg (by omega)];exact hmod
 have hK0:((K:Int) == 0)=false:=by simp;omega
 have hK0b:¬ K=0:=by omega
 have hwa:IntKind.i32.wrap (a:Int)=(a:Int):=IntWalk.i32_in _ (by omega)
 clear hh hb hse hH hze hhl hbl kS
 go_enter Tryz.func139,Tryz.ntmps139
 go_wp2_with fail
 with_reducible refine HSl.out.mono ?_
 rintro e w1 ⟨rfl,rfl⟩
 go_wp2_with fail
 refine wp_region_noPanic ?_
 refine wp_region_held_drew (S:=fun W=>Kept (OneB gb) w1 W) (by kernel_rfl) (Kept.drew (Kept.refl _ _)) (fun hHeld=>?_)
 obtain ⟨wd,hwd⟩:∃ x,x=w1.drew:=⟨_,rfl⟩
 have hkd:Kept NoB w1 wd:=by rw [hwd];exact Kept.drew (Kept.refl _ _)
 rw [← hwd] at hHeld ⊢
 have hbd:PlcAt wd gb bs:=HB.out.keptS hkd (fun h=>h)
 have hhd:PlcAt wd gh hs:=HH.out.keptS hkd (fun h=>h)
 clear hwd
 refine wpAnyH_take (i:=0) (v:=?_) (by rw [List.getElem?_toArray];rfl) (by kernel_rfl) (by kernel_rfl) (by kernel_rfl) (fun _ _ _ h=>h) (Or.inl ⟨by rfl,?hyq1_⟩) (by assumption) ?restq1_
 case hyq1_=>(intro w hSw;(try dsimp only at hSw);(try have e0:=f0 w hSw);(try have e1:=f1 w hSw);(try have e2:=f2 w hSw);go_simp;(try with_reducible rfl))
 try simp only [Act.put,List.setIfInBounds_toArray,List.set_cons_zero,List.set_cons_succ]
 refine wpAnyH_take (i:=1) (v:=?_) (by rw [List.getElem?_toArray];rfl) (by kernel_rfl) (by kernel_rfl) (by kernel_rfl) (fun _ _ _ h=>h) (Or.inl ⟨by rfl,?hyq2_⟩) (by assumption) ?restq2_
 case hyq2_=>(intro w hSw;(try dsimp only at hSw);(try have e0:=f0 w hSw);(try have e1:=f1 w hSw);(try have e2:=f2 w hSw);go_simp;(try with_reducible rfl))
 try simp only [Act.put,List.setIfInBounds_toArray,List.set_cons_zero,List.set_cons_succ]
 refine wpAnyH_take (i:=2) (v:=?_) (by rw [List.getElem?_toArray];rfl) (by kernel_rfl) (by kernel_rfl) (by kernel_rfl) (fun _ _ _ h=>h) (Or.inl ⟨by rfl,?hyq3_⟩) (by assumption) ?restq3_
 case hyq3_=>(intro w hSw;(try dsimp only at hSw);(try have e0:=f0 w hSw);(try have e1:=f1 w hSw);(try have e2:=f2 w hSw);go_simp;(try with_reducible rfl))
 try simp only [Act.put,List.setIfInBounds_toArray,List.set_cons_zero,List.set_cons_succ]
 refine wpAnyH_take (i:=3) (v:=?_) (by rw [List.getElem?_toArray];rfl) (by kernel_rfl) (by kernel_rfl) (by kernel_rfl) (fun _ _ _ h=>h) (Or.inl ⟨by rfl,?hyq4_⟩) (by assumption) ?restq4_
 case hyq4_=>(intro w hSw;(try dsimp only at hSw);(try have e0:=f0 w hSw);(try have e1:=f1 w hSw);(try have e2:=f2 w hSw);go_simp;(try with_reducible rfl))
 try simp only [Act.put,List.setIfInBounds_toArray,List.set_cons_zero,List.set_cons_succ]
 refine wpAnyH_take (i:=4) (v:=?_) (by rw [List.getElem?_toArray];rfl) (by kernel_rfl) (by kernel_rfl) (by kernel_rfl) (fun _ _ _ h=>h) (Or.inl ⟨by rfl,?hyq5_⟩) (by assumption) ?restq5_
 case hyq5_=>(intro w hSw;(try dsimp only at hSw);(try have e0:=f0 w hSw);(try have e1:=f1 w hSw);(try have e2:=f2 w hSw);go_simp;(try with_reducible rfl))
 try simp only [Act.put,List.setIfInBounds_toArray,List.set_cons_zero,List.set_cons_succ]
 refine wpAnyH_take (i:=5) (v:=?_) (by rw [List.getElem?_toArray];rfl) (by kernel_rfl) (by kernel_rfl) (by kernel_rfl) (fun _ _ _ h=>h) (Or.inl ⟨by rfl,?hyq6_⟩) (by assumption) ?restq6_
 case hyq6_=>(intro w hSw;(try dsimp only at hSw);(try have e0:=f0 w hSw);(try have e1:=f1 w hSw);(try have e2:=f2 w hSw);go_simp;(try with_reducible rfl))
 try simp only [Act.put,List.setIfInBounds_toArray,List.set_cons_zero,List.set_cons_succ]
 refine wpAnyH_take (i:=6) (v:=?_) (by rw [List.getElem?_toArray];rfl) (by kernel_rfl) (by kernel_rfl) (by kernel_rfl) (fun _ _ _ h=>h) (Or.inl ⟨by rfl,?hyq7_⟩) (by assumption) ?restq7_
 case hyq7_=>(intro w hSw;(try dsimp only at hSw);(try have e0:=f0 w hSw);(try have e1:=f1 w hSw);(try have e2:=f2 w hSw);go_simp;(try with_reducible rfl))
 try simp only [Act.put,List.setIfInBounds_toArray,List.set_cons_zero,List.set_cons_succ]
 refine wpAnyH_take (i:=7) (v:=?_) (by rw [List.getElem?_toArray];rfl) (by kernel_rfl) (by kernel_rfl) (by kernel_rfl) (fun _ _ _ h=>h) (Or.inl ⟨by rfl,?hyq8_⟩) (by assumption) ?restq8_
 case hyq8_=>(intro w hSw;(try dsimp only at hSw);(try have e0:=f0 w hSw);(try have e1:=f1 w hSw);(try have e2:=f2 w hSw);go_simp;(try with_reducible rfl))
 try simp only [Act.put,List.setIfInBounds_toArray,List.set_cons_zero,List.set_cons_succ]
 refine wpAnyH_take (i:=8) (v:=?_) (by rw [List.getElem?_toArray];rfl) (by kernel_rfl) (by kernel_rfl) (by kernel_rfl) (fun _ _ _ h=>h) (Or.inl ⟨by rfl,?hyq9_⟩) (by assumption) ?restq9_
 case hyq9_=>(intro w hSw;(try dsimp only at hSw);(try have e0:=f0 w hSw);(try have e1:=f1 w hSw);(try have e2:=f2 w hSw);go_simp;(try with_reducible rfl))
 try simp only [Act.put,List.setIfInBounds_toArray,List.set_cons_zero,List.set_cons_succ]
 refine wpAnyH_take (i:=9) (v:=?_) (by rw [List.getElem?_toArray];rfl) (by kernel_rfl) (by kernel_rfl) (by kernel_rfl) (fun _ _ _ h=>h) (Or.inl ⟨by rfl,?hyq10_⟩) (by assumption) ?restq10_
 case hyq10_=>(intro w hSw;(try dsimp only at hSw);(try have e0:=f0 w hSw);(try have e1:=f1 w hSw);(try have e2:=f2 w hSw);go_simp;(try with_reducible rfl))
 try simp only [Act.put,List.setIfInBounds_toArray,List.set_cons_zero,List.set_cons_succ]
 refine wpAnyH_take (i:=10) (v:=?_) (by rw [List.getElem?_toArray];rfl) (by kernel_rfl) (by kernel_rfl) (by kernel_rfl) (fun _ _ _ h=>h) (Or.inl ⟨by rfl,?hyq11_⟩) (by assumption) ?restq11_
 case hyq11_=>(intro w hSw;(try dsimp only at hSw);(try have e0:=f0 w hSw);(try have e1:=f1 w hSw);(try have e2:=f2 w hSw);go_simp;(try with_reducible rfl))
 try simp only [Act.put,List.setIfInBounds_toArray,List.set_cons_zero,List.set_cons_succ]
 refine wpAnyH_take (i:=11) (v:=?_) (by rw [List.getElem?_toArray];rfl) (by kernel_rfl) (by kernel_rfl) (by kernel_rfl) (fun _ _ _ h=>h) (Or.inl ⟨by rfl,?hyq12_⟩) (by assumption) ?restq12_
 case hyq12_=>(intro w hSw;(try dsimp only at hSw);(try have e0:=f0 w hSw);(try have e1:=f1 w hSw);(try have e2:=f2 w hSw);go_simp;(try with_reducible rfl))
 try simp only [Act.put,List.setIfInBounds_toArray,List.set_cons_zero,List.set_cons_succ]
 refine wpAnyH_take (i:=12) (v:=?_) (by rw [List.getElem?_toArray];rfl) (by kernel_rfl) (by kernel_rfl) (by kernel_rfl) (fun _ _ _ h=>h) (Or.inl ⟨by rfl,?hyq13_⟩) (by assumption) ?restq13_
 case hyq13_=>(intro w hSw;(try dsimp only at hSw);(try have e0:=f0 w hSw);(try have e1:=f1 w hSw);(try have e2:=f2 w hSw);go_simp;(try with_reducible rfl))
 try simp only [Act.put,List.setIfInBounds_toArray,List.set_cons_zero,List.set_cons_succ]
 refine wpAnyH_take (i:=13) (v:=?_) (by rw [List.getElem?_toArray];rfl) (by kernel_rfl) (by kernel_rfl) (by kernel_rfl) (fun _ _ _ h=>h) (Or.inl ⟨by rfl,?hyq14_⟩) (by assumption) ?restq14_
 case hyq14_=>(intro w hSw;(try dsimp only at hSw);(try have e0:=f0 w hSw);(try have e1:=f1 w hSw);(try have e2:=f2 w hSw);go_simp;(try with_reducible rfl))
 try simp only [Act.put,List.setIfInBounds_toArray,List.set_cons_zero,List.set_cons_succ]
 refine wpAnyH_take (i:=14) (v:=?_) (by rw [List.getElem?_toArray];rfl) (by kernel_rfl) (by kernel_rfl) (by kernel_rfl) (fun _ _ _ h=>h) (Or.inl ⟨by rfl,?hyq15_⟩) (by assumption) ?restq15_
 case hyq15_=>(intro w hSw;(try dsimp only at hSw);(try have e0:=f0 w hSw);(try have e1:=f1 w hSw);(try have e2:=f2 w hSw);go_simp;(try with_reducible rfl))
 try simp only [Act.put,List.setIfInBounds_toArray,List.set_cons_zero,List.set_cons_succ]
 refine wpAnyH_take (i:=15) (v:=?_) (by rw [List.getElem?_toArray];rfl) (by kernel_rfl) (by kernel_rfl) (by kernel_rfl) (fun _ _ _ h=>h) (Or.inl ⟨by rfl,?hyq16_⟩) (by assumption) ?restq16_
 case hyq16_=>(intro w hSw;(try dsimp only at hSw);(try have e0:=f0 w hSw);(try have e1:=f1 w hSw);(try have e2:=f2 w hSw);go_simp;(try with_reducible rfl))
 try simp only [Act.put,List.setIfInBounds_toArray,List.set_cons_zero,List.set_cons_succ]
 refine wpAnyH_take (i:=16) (v:=?_) (by rw [List.getElem?_toArray];rfl) (by kernel_rfl) (by kernel_rfl) (by kernel_rfl) (fun _ _ _ h=>h) (Or.inl ⟨by rfl,?hyq17_⟩) (by assumption) ?restq17_
 case hyq17_=>(intro w hSw;(try dsimp only at hSw);(try have e0:=f0 w hSw);(try have e1:=f1 w hSw);(try have e2:=f2 w hSw);go_simp;(try with_reducible rfl))
 try simp only [Act.put,List.setIfInBounds_toArray,List.set_cons_zero,List.set_cons_succ]
 refine wpAnyH_take (i:=17) (v:=?_) (by rw [List.getElem?_toArray];rfl) (by kernel_rfl) (by kernel_rfl) (by kernel_rfl) (fun _ _ _ h=>h) (Or.inl ⟨by rfl,?hyq18_⟩) (by assumption) ?restq18_
 case hyq18_=>(intro w hSw;(try dsimp only at hSw);(try have e0:=f0 w hSw);(try have e1:=f1 w hSw);(try have e2:=f2 w hSw);go_simp;(try with_reducible rfl))
 try simp only [Act.put,List.setIfInBounds_toArray,List.set_cons_zero,List.set_cons_succ]
 refine wpAnyH_take (i:=18) (v:=?_) (by rw [List.getElem?_toArray];rfl) (by kernel_rfl) (by kernel_rfl) (by kernel_rfl) (fun _ _ _ h=>h) (Or.inl ⟨by rfl,?hyq19_⟩) (by assumption) ?restq19_
 case hyq19_=>(intro w hSw;(try dsimp only at hSw);(try have e0:=f0 w hSw);(try have e1:=f1 w hSw);(try have e2:=f2 w hSw);go_simp;(try with_reducible rfl))
 try simp only [Act.put,List.setIfInBounds_toArray,List.set_cons_zero,List.set_cons_succ]
 have hfz1:wd.frozen? ⟨gb,a,none⟩=false:=obj_free hbd a
 have hba:=hbd.cell a (by have:=HBl.out;omega)
 have hb1:=hbd.set a z
 have hh1:=hhd.other (Ne.symm hne) a (.int .i32 z)
 have hk2:Kept (OneB gb) wd (wd.setCell ⟨gb,a,none⟩ (.int .i32 z)):=Kept.setCell (S:=OneB gb) (p:=⟨gb,a,none⟩) (Kept.refl _ wd) (.inl rfl) _
 refine wpAnyH_ready (rs:=[19]) (by kernel_rfl) (by simp) ?_
 refine AllReadyH.cons (by rw [List.getElem?_toArray];rfl) (fun K hK=>?_) AllReadyH.nil
 go_simp
 refine hK.out _ _ (hHeld.trans hk2) (fun hHeld=>?_)
 clear hK K
 try simp only [Act.put,List.setIfInBounds_toArray,List.set_cons_zero,List.set_cons_succ]
 refine wpAnyH_done (by kernel_rfl) ?_ _
 refine NoPanic.normal ?_
 obtain ⟨w2,hw2⟩:∃ w2,w2=wd.setCell ⟨gb,a,none⟩ (.int .i32 z):=⟨_,rfl⟩
 rw [← hw2] at hHeld hb1 hh1 ⊢
 have hfz2:w2.frozen? ⟨gh,s,none⟩=false:=obj_free hh1 s
 have hhs:=hh1.cell s (by have:=HHl.out;omega)
 have c0b:=f0 w2 hHeld
 have HH2:=Hd (hh1.set s (a:Int))
 have HB2:=Hd (hb1.other hne s (.int .i32 (a:Int)))
 have HK2:=Hd (Kept.setCell (S:=TwoB gh gb) (p:=⟨gh,s,none⟩) (hHeld.mono (fun q _ e => .inr e)) (.inl (.inl rfl)) (.int .i32 (a:Int)))
 clear hbd hhd hfz1 hba hb1 hh1 hk2 hkd hHeld f0 f1 f2 hw2
 go_wp2
 refine bodyPost_end (results_none rfl _ _ _) rfl ?_
 exact ⟨rfl,HK2.out,HH2.out,HB2.out⟩
theorem key_skip (L:List UInt8)(k W a p m:Nat)(ha:a+k≤L.length)(hp:p < a)(hm:m≤L.length - a)(hkm:k≤m)(hne:slotN W (keyN L k p)≠slotN W (keyN L k a)):shr L p a m < k:=by
 apply Nat.lt_of_not_le
 intro h
 have h2:=(shr_iff L m p a k hkm).1 h
 exact hne (by rw [(key_iff L k p a (by omega) ha).2 h2])
theorem BestP.gap {L:List UInt8}{k W a m n0 z d i:Nat}{f:Int}(h:BestP (candN L a) (a - i) n0 z d)(hi:i≤a)(ha:a+k≤L.length)(hm:m=min 258 (L.length - a))(hkm:k≤m)(hn0:k≤n0+1)(hf:f=prevN (fun p=>slotN W (keyN L k p)) (slotN W (keyN L k a)) i):
  (f = -1∧BestP (candN L a) a n0 z d)∨∃ q:Nat,f=(q:Int)∧q < i∧slotN W (keyN L k q)=slotN W (keyN L k a)∧BestP (candN L a) (a - q - 1) n0 z d:=by
 have hz:=h.le
 have hc:∀ e,a - i < e→e≤a→(∀ q,slotN W (keyN L k q)=slotN W (keyN L k a)→q≠a - e)→candN L a e≤z:=by
  intro e h1 h2 h3
  have hk:=key_skip L k W a (a - e) m ha (by omega) (by omega) hkm (fun he=>h3 _ he rfl)
  have:candN L a e=shr L (a - e) a m:=by rw [candN,mostN,hm]
  omega
 rcases prev_spec (fun p=>slotN W (keyN L k p)) (slotN W (keyN L k a)) i with ⟨h1,h2⟩ | ⟨q,h1,h2,h3,h4⟩
 ·refine .inl ⟨by rw [hf,h1],h.skip (by omega) (fun e e1 e2=>hc e e1 e2 (fun q hq hqe=>h2 q (by omega) hq))⟩
 ·refine .inr ⟨q,by rw [hf,h1],h2,h3,h.skip (by omega) (fun e e1 e2=>hc e e1 (by omega) (fun q2 hq hqe=>h4 q2 (by omega) (by omega) hq))⟩
theorem BestAt.keptS {S:Nat→Prop}{w w':World}{r g o N c a m n d:Nat}(h:BestAt w r g o N c a m n d)(hk:Kept S w w')(hs:¬ S r):BestAt w' r g o N c a m n d:=hk.obj h hs
def ChTryP (w:World)(r g o N c a m:Nat)(L:List UInt8)(n0:Nat)(e:Ending)(w':World):Prop:=
 e = .returned (.tuple #[])∧Kept (OneB r) w w'∧∃ z d,BestAt w' r g o N c a m z d∧BestP (candN L a) a n0 z d
set_option maxRecDepth 100000 in
theorem chtry_any (B f W gh gb K k r g o N c a m n0:Nat)(hs bs:List Int)(L:List UInt8)(w:World)(hW:4≤W∧W≤16)(hc:ChAt w B f W gh gb (2 ^ W) K)(hh:PlcAt w gh hs)(hb:PlcAt w gb bs)(hP:ChainP (fun p=>slotN W (keyN L k p)) (2 ^ W) a hs bs)
  (hbl:bs.length=K) (hK:K≤32768) (haK:a < K) (hBr:B≠r) (hhr:gh≠r) (hbr:gb≠r) (hgr:g≠r) (h0r:r≠1) (hB:BestAt w r g o N c a m n0 0) (hr:RdB w g o L 0 N) (hN:N=L.length) (hcc:N≤c) (hcm:c≤9223372036854775807) (hm:m=min 258 (N - a)) (hn0:k=n0+1) (hkm:k≤m) (hk8:k≤8) (haN:a+k≤N) (hT:DeB w):
  Calls Tryz.prog 117 #[.pointer (some ⟨B,f,none⟩),.pointer (some ⟨r,0,none⟩),.int .u64 ((keyN L k a:Nat):Int)] w (ChTryP w r g o N c a m L n0):=by
 have hkl:keyN L k a < 18446744073709551616:=Nat.lt_of_lt_of_le (key_lt L k a) (by
  have:256 ^ k≤256 ^ 8:=Nat.pow_le_pow_right (by omega) hk8
  omega)
 have HSl:=Hd (fun W2 (hk2:Kept NoB w W2)=>slot_any B f W (keyN L k a) W2 hW hkl (hk2.cell hc.c2))
 have hsl:=slot_lt W (keyN L k a) (by omega)
 have HGap:=Hd (fun (z d i:Nat) (f:Int) (h:BestP (candN L a) (a - i) n0 z d) (hi:i≤a) (hf:f=prevN (fun p=>slotN W (keyN L k p)) (slotN W (keyN L k a)) i)=>BestP.gap h hi (by omega) (hN ▸ hm) hkm (by omega) hf)
 have HPb:=Hd (fun s i=>prev_bd (fun p=>slotN W (keyN L k p)) s i)
 have HPs:=Hd (fun i=>prev_spec (fun p=>slotN W (keyN L k p)) (slotN W (keyN L k a)) i)
 have hhead:=hP.head (slotN W (keyN L k a)) hsl
 have HBk:=Hd hP.back
 obtain ⟨s,hse⟩:∃ s,s=slotN W (keyN L k a):=⟨_,rfl⟩
 obtain ⟨H,hH⟩:∃ H,H=2 ^ W:=⟨_,rfl⟩
 have hhl:=hP.len
 rw [← hse] at HSl hsl hhead
 rw [← hH] at hsl hc hhl
 have hHb:H≤65536:=by rw [hH];exact (Nat.pow_le_pow_right (by omega) hW.2)
 have HC:=Hd hc;have HH:=Hd hh;have HB':=Hd hb;have HBe:=Hd hB;have HR:=Hd hr;have HT:=Hd hT;have HN:=Hd hN;have HM:=Hd hm;have HBl:=Hd hbl;have HSe:=Hd hse
 have hz0:=hh.cell s (by omega)
 obtain ⟨f0,hf0⟩:∃ f0,f0=hs.getD s 0:=⟨_,rfl⟩
 rw [← hf0] at hz0 hhead
 have hfb:=HPb.out s a
 rw [← hhead] at hfb
 have HHead:Hid (f0=prevN (fun p=>slotN W (keyN L k p)) (slotN W (keyN L k a)) a):=Hd (by rw [← hse];exact hhead)
 have g0:∀ W2,Kept NoB w W2→W2.cell? ⟨B,f,none⟩=some (.slice (some ⟨gh,0,none⟩) H H):=fun W2 hk=>hk.cell hc.c0
 have g2:∀ W2,Kept NoB w W2→W2.cell? ⟨gh,s,none⟩=some (.int .i32 f0):=fun W2 hk=>hk.cell hz0
 have hsH:(s:Int) < (H:Int):=by omega
 have hfw:IntKind.i64.wrap f0=f0:=IntWalk.i64_in _ (by omega)
 have hk0:=Kept.refl NoB w
 obtain ⟨key,hkey⟩:∃ key,key=keyN L k a:=⟨_,rfl⟩
 rw [← hkey] at HSl ⊢
 clear hc hh hb hB hr hT hN hm hbl hP hhl hH hse hf0 hz0 hhead hkl hkey
 go_enter Tryz.func117,Tryz.ntmps117
 go_wp2
 go_region_held3 (fun W2=>Kept NoB w W2) (first | assumption | exact Kept.drew (by assumption) | exact Kept.trans (by assumption) hkn)
  (first
   | (go_at_call 140;((with_reducible refine (HSl.out _ (by assumption)).mono ?_);rintro e wn ⟨rfl,hkn0⟩;have hkn:Kept NoB w wn:=by (rw [hkn0];assumption))))
 have HK1:Hid (Kept NoB w w.drew):=Hd (Kept.drew (Kept.refl NoB w))
 obtain ⟨w1,hw1⟩:∃ w1,w1=w.drew:=⟨_,rfl⟩
 have HSt:=Hd (HGap.out n0 0 a f0 (by rw [Nat.sub_self];exact BestP.start _ _) (Nat.le_refl _) HHead.out)
 rw [← hw1] at HK1 ⊢
 have HB1:=Hd (HBe.out.keptS HK1.out (fun h=>h))
 clear hw1 g0 g2 hk0 HSl
 go_wp2
 go_loopw [6] (fun v6 wr=>∃ (fv:Int) (z d:Nat),v6 = .int .i64 fv ∧ -1≤fv∧fv≤32768∧Hid ((fv = -1∧BestP (candN L a) a n0 z d)∨∃ q:Nat,fv=(q:Int)∧q < a∧slotN W (keyN L k q)=slotN W (keyN L k a)∧BestP (candN L a) (a - q - 1) n0 z d)∧Hid (BestAt wr r g o N c a m z d)∧Hid (Kept (OneB r) w wr)) (fun v6 _=>((intOf v6)+1).toNat)
 case atStart=>exact ⟨f0,n0,0,rfl,by omega,by omega,HSt,HB1,Hd (HK1.out.mono (fun _ _ h=>absurd h (fun h=>h)))⟩
 case round=>
  obtain ⟨fv,z,d,rfl,hf1,hf2,HSt,HB,HK⟩:=hrel
  rcases HSt.out with ⟨hm1,hbp⟩ | ⟨q,rfl,hqa,hsq,hbp⟩
  ·have HBp:=Hd hbp
   have hd:decide (fv = -1)=true:=decide_eq_true hm1
   have y1:(fv == -1)=true:=by simp [hm1]
   have y2:(fv != -1)=false:=by simp [hm1]
   clear hm1 hbp hd
   go_wp2
   refine bodyPost_end (results_none rfl _ _ _) rfl ?_
   exact ⟨rfl,HK.out,z,d,HB.out,HBp.out⟩
  ·have HBp:=Hd hbp;have HSq:=Hd hsq
   have y1:((q:Int) == -1)=false:=by simp
   have y2:((q:Int) != -1)=true:=by simp
   obtain ⟨c0,c1,c2,c3,c4⟩:=HB.out.cells
   have hdist:(a:Int) - (q:Int)≤32768:=by omega
   have HFu:=Hd (bfull_any r g o N c a m z d wr HB.out)
   have hcl:∀ e,candN L a e≤m:=fun e=>by have:=cand_le L a e;rw [mostN,← HN.out,← HM.out] at this;exact this
   by_cases hfull:m≤z
   ·rw [decide_eq_true hfull] at HFu
    have HE:=Hd (hbp.all (D2:=a) (by omega) hfull hcl)
    clear hfull hbp hsq hcl
    go_wp2_with fail
    with_reducible refine HFu.out.mono ?_
    rintro e w4 ⟨rfl,hk4⟩
    have HK4:=Hd (HK.out.trans (hk4.mono (fun _ _ h=>absurd h (fun h=>h)):Kept (OneB r) wr w4))
    have HB4:=Hd (HB.out.kept hk4)
    clear hk4
    go_wp2
    refine bodyPost_end (results_none rfl _ _ _) rfl ?_
    exact ⟨rfl,HK4.out,z,d,HB4.out,HE.out⟩
   ·rw [decide_eq_false hfull] at HFu
    have hst:=hbp.step
    have hcd:candN L a (a - q - 1+1)=shr L q a m:=by
     rw [candN,mostN,← HN.out,← HM.out]
     congr 1;omega
    rw [hcd,show a - q - 1+1=a - q by omega] at hst
    have HStp:=Hd hst
    have HTry:=Hd (fun W2 (h:Kept NoB wr W2)=>(have hk9:Kept (OneB r) w W2:=HK.out.trans (h.mono (fun _ _ h=>absurd h (fun h=>h)));try_any r g o N c a m z d q L W2 (HB.out.kept h) (HR.out.keptS hk9 hgr) HN.out hcc hcm HM.out (by omega) hqa (by omega) (HT.out.keptS hk9 (fun e=>h0r e.symm))))
    have HPq:=Hd (HPb.out (slotN W (keyN L k q)) q)
    have hbk:=HBk.out q hqa
    clear hfull hbp hsq hcl hst hcd
    go_wp2_with fail
    with_reducible refine HFu.out.mono ?_
    rintro e w4 ⟨rfl,hk4⟩
    have HK4:=Hd hk4
    clear hk4 c0 c1 c2 c3 c4
    go_wp2_with fail
    with_reducible refine (HTry.out _ HK4.out).mono ?_
    rintro e w5 ⟨rfl,hk5,hb5⟩
    have HB5:=Hd hb5
    have HK5:Hid (Kept (OneB r) w w5):=Hd ((HK.out.trans (HK4.out.mono (fun _ _ h=>absurd h (fun h=>h)))).trans hk5)
    have hc1:=(HC.out.keptS HK5.out hBr).c1
    have hqb:=(HB'.out.keptS HK5.out hbr).cell q (by have:=HBl.out;omega)
    rw [hbk] at hqb
    have hpb:=HPq.out
    obtain ⟨f2,hf2e⟩:∃ f2,f2=prevN (fun p=>slotN W (keyN L k p)) (slotN W (keyN L k q)) q:=⟨_,rfl⟩
    rw [← hf2e] at hqb hpb
    have HF2:=Hd hf2e
    obtain ⟨z2,hz2⟩:∃ z2,z2=(if z < shr L q a m then shr L q a m else z):=⟨_,rfl⟩
    obtain ⟨d2,hd2⟩:∃ d2,d2=(if z < shr L q a m then a - q else d):=⟨_,rfl⟩
    rw [← hz2,← hd2] at HStp HB5
    have HNx:=Hd (HGap.out z2 d2 q f2 HStp.out (by omega) (by rw [HF2.out,HSq.out]))
    have HNx2:Hid ((f2 = -1∧BestP (candN L a) a n0 z2 d2)∨∃ q:Nat,f2=(q:Int)∧q < a∧slotN W (keyN L k q)=slotN W (keyN L k a)∧BestP (candN L a) (a - q - 1) n0 z2 d2):=Hd (by
     rcases HNx.out with h | ⟨q2,e1,e2,e3,e4⟩
     ·exact .inl h
     ·exact .inr ⟨q2,e1,by omega,e3,e4⟩)
    have hqK:(q:Int) < (K:Int):=by omega
    have hmod:(q:Int) % (K:Int)=(q:Int):=Int.emod_eq_of_lt (by omega) hqK
    have hmod2:(q:Int).tmod (K:Int)=(q:Int):=by rw [Int.tmod_eq_emod_of_nonneg (by omega)];exact hmod
    have hK0:¬ K=0:=by omega
    have hf2w:IntKind.i64.wrap f2=f2:=IntWalk.i64_in _ (by omega)
    have c0b:=(HC.out.keptS HK5.out hBr).c0
    clear hk5 hb5 hbk hf2e hz2 hd2
    go_wp2_with fail
    go_quiet (fail)
    have HK6:=Hd (HK5.out.drewN nq)
    have HB6:=Hd (HB5.out.kept ((Kept.refl NoB w5).drewN nq))
    go_wp2
    go_roundw
    case rel=>exact ⟨f2,z2,d2,rfl,by omega,by omega,HNx2,HB6,HK6⟩
    case measure=>simp [intOf] <;> omega
end Go.Proofs.YtfmjfgmbjdhogaaGreatDoor
