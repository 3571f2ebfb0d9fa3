import Derived.Test.YtfmjfgmbjdhogaaGreatDoorMb18
import Derived.Laws.BytesArg
import Derived.Lib.SlBytesConst
import Derived.Laws.AppendOwnNone
set_option linter.unusedVariables false
set_option linter.unusedSimpArgs false
set_option maxRecDepth 20000
set_option maxHeartbeats 8000000
namespace Go.Proofs.YtfmjfgmbjdhogaaGreatDoor
open Go.RowKit
theorem find_at (B:Nat→Nat)(n:Nat)(h0:B 0≤n):∀ H,∃ i,i≤H∧B i≤n∧(i < H→n < B (i+1))
 | 0=>⟨0,Nat.le_refl _,h0,fun h=>absurd h (Nat.lt_irrefl _)⟩
 | H+1=>by
  obtain ⟨i,h1,h2,h3⟩:=find_at B n h0 H
  by_cases hi:i < H
  ·exact ⟨i,by omega,h2,fun _=>h3 hi⟩
  ·obtain rfl:i=H:=by omega
   by_cases hn:n < B (i+1)
   ·exact ⟨i,by omega,h2,fun _=>hn⟩
   ·exact ⟨i+1,Nat.le_refl _,by omega,fun h=>absurd h (Nat.lt_irrefl _)⟩
theorem lb_at (n : Nat) (h : 3 ≤ n) (h2 : n ≤ 257) : ∃ i v, i < 28 ∧ v < 2 ^ le4 i ∧ n = lb i + v := by
  obtain ⟨i, h3, h4, h5⟩ := find_at lb n (by have : lb 0 = 3 := by decide
                                             omega) 27
  refine ⟨i, n - lb i, by omega, ?_, by omega⟩
  by_cases hi : i < 27
  · have := lb_step i hi
    have := h5 hi
    omega
  · obtain rfl : i = 27 := by omega
    have : lb 27 + 2 ^ le4 27 = 259 := by decide
    omega
theorem db_at (n : Nat) (h : 1 ≤ n) (h2 : n ≤ 32768) : ∃ j u, j < 30 ∧ u < 2 ^ de j ∧ n = db j + u := by
  obtain ⟨i, h3, h4, h5⟩ := find_at db n (by have : db 0 = 1 := by decide
                                             omega) 29
  refine ⟨i, n - db i, by omega, ?_, by omega⟩
  by_cases hi : i < 29
  · have := db_step i hi
    have := h5 hi
    omega
  · obtain rfl : i = 29 := by omega
    have : db 29 + 2 ^ de 29 = 32769 := by decide
    omega
theorem tok_shape {t:Tk}(hw:t.wf)(hok:t.ok=true):(∃ c:Nat,c < 256∧t=⟨0,0,(c:Int)⟩)∨(∃ j u,j < 30∧u < 2 ^ de j∧t=⟨258,((db j+u:Nat):Int),0⟩)∨(∃ i v j u,i < 28∧v < 2 ^ le4 i∧lb i+v≤257∧j < 30∧u < 2 ^ de j∧t=⟨((lb i+v:Nat):Int),((db j+u:Nat):Int),0⟩):=by
 obtain ⟨l,d,c⟩:=t
 obtain ⟨_,_,h0,h1⟩:=hw
 simp only at h0 h1
 unfold Tk.ok at hok
 by_cases hl:l=0
 ·subst hl
  simp only [if_true,decide_eq_true_eq] at hok
  subst hok
  exact .inl ⟨c.toNat,by omega,by rw [Int.toNat_of_nonneg h0]⟩
 ·rw [if_neg hl,decide_eq_true_eq] at hok
  simp only at hok
  obtain ⟨a1,a2,a3,a4,rfl⟩:=hok
  obtain ⟨j,u,hj,hu,hd⟩:=db_at d.toNat (by omega) (by omega)
  by_cases h8:l=258
  ·subst h8
   exact .inr (.inl ⟨j,u,hj,hu,by rw [← hd,Int.toNat_of_nonneg (by omega)]⟩)
  ·obtain ⟨i,v,hi,hv,hlv⟩:=lb_at l.toNat (by omega) (by omega)
   exact .inr (.inr ⟨i,v,j,u,hi,hv,by omega,hj,hu,by rw [← hd,← hlv,Int.toNat_of_nonneg (by omega),Int.toNat_of_nonneg (by omega)]⟩)
theorem tokW_any {lit dist:List Int}(hl:∀ k:Nat,k < 286→HasC lit (k:Int))(hd:∀ k:Nat,k < 30→HasC dist (k:Int)){t:Tk}(hw:t.wf)(hok:t.ok=true):∃ ws,TokW lit dist t ws:=by
 rcases tok_shape hw hok with ⟨c,hc,rfl⟩ | ⟨j,u,hj,hu,rfl⟩ | ⟨i,v,j,u,hi,hv,hlv,hj,hu,rfl⟩
 ·exact ⟨_,.one c (by omega) (by omega) (hl c (by omega))⟩
 ·exact ⟨_,.long j u hj hu (hl 285 (by omega)) (hd j hj)⟩
 ·exact ⟨_,.copy i v j u hi hv hlv hj hu (hl (257+i) (by omega)) (hd j hj)⟩
theorem OwnZ.rdG {w:World}{G n:Nat}{L:List Int}(h:OwnZ w G n L)(hl:L.length=n){S:Nat→Prop}(hS:S G):RdG w S (some ⟨G,0,none⟩) L:=fun i hi=>by
 obtain ⟨g,off,e,_,hc⟩:=h.reads hl i hi
 cases e
 exact ⟨G,0,rfl,hS,hc⟩
theorem allOkB_mem {ts:List Tk}(h:allOkB ts=true)(t:Tk)(ht:t∈ts):t.ok=true:=by
 unfold allOkB at h
 rw [List.all_eq_true] at h
 exact h t ht
def FixP (w:World)(R:Nat)(ao:Option Addr)(cap:Nat)(bs:List Int)(s:Nat)(last:Bool)(ts:List Tk)(e:Ending)(w':World):Prop:=
 ∃ ws ao' cap' bs',e = .returned (.int .i64 0)∧TokWs fixL fixD ts ws∧WroteP w R (.slice ao bs.length cap) bs s ([(lastN last,1),(1,2)]++(ws++[wordZ fixL 256])) w' ao' cap' bs'
theorem fixedBlock_yes (w:World)(R:Nat)(ao:Option Addr)(cap:Nat)(bs:List Int)(s:Nat)(last:Bool)(ta:Option Addr)(tc:Nat)(ts:List Tk)
  (h:Wtr w R ao cap bs s) (hss:s≤500000000000) (hr:Toks w ta ts) (hsep:ts≠[]→∀ a,ta=some a→a.block≠R∧(Value.slice ao bs.length cap).ownBlock≠some a.block) (htl:ts.length≤2000000) (hwf:AllT ts) (hok:allOkB ts=true):
  Calls Tryz.prog 34 #[.pointer (some ⟨R,0,none⟩),.bool last,.slice ta ts.length tc] w (FixP w R ao cap bs s last ts):=by
 have HA:=Hd (allOk_any ta tc ts w hr (by unfold maxLen;omega))
 have hts:∀ t∈ts,∃ ws,TokW fixL fixD t ws:=fun t ht=>tokW_any (fun k hk=>fixL_has k (by omega)) (fun k hk=>fixD_has k (by omega)) (hwf t ht) (allOkB_mem hok t ht)
 have H:=Hd h;have HR:=Hd hr;have HSep:=Hd hsep;have HTs:=Hd hts;have HTl:=Hd htl
 rw [hok] at HA
 clear h hr hsep hwf hok hts htl
 go_enter Tryz.func34,Tryz.ntmps34
 go_wp2_with fail
 refine HA.out.mono ?_
 rintro e w1 ⟨rfl,hk1⟩
 have HK1:=Hd hk1
 have hp:=putType_any w1 R ao cap bs s 1 last (H.out.keptNo hk1) (by decide) (by omega)
 rw [show ((1:Nat):Int)=1 from rfl] at hp
 have HP:=Hd hp
 clear hk1 hp HA
 go_wp2_with fail
 refine HP.out.mono ?_
 rintro e w2 ⟨a2,c2,b2,rfl,hW⟩
 have HW:=Hd (hW.base HK1.out)
 clear hW HP
 have HF:=Hd (fixed_any w2)
 go_wp2_with fail
 refine HF.out.mono ?_
 rintro e w3 ⟨G,K,rfl,hT⟩
 have HT:=Hd hT
 have hW3:=HW.out.keptNo hT.k
 have hRlt:=obj_lt HW.out.1.1
 have hAlt:∀ k,(Value.slice a2 b2.length c2).ownBlock=some k→k < w2.heap.size:=own_lt HW.out.1.2.1
 have hr3:Toks w3 ta ts:=fun j hj=>by
  obtain ⟨b,off,rfl,x0,x1,x2⟩:=HR.out j hj
  have hs:=HSep.out (fun e=>by rw [e] at hj;simp at hj) _ rfl
  have hb:¬ OrB (OneB R) (OwnB (.slice ao bs.length cap)) b:=fun e=>e.elim (fun e=>hs.1 e) (fun e=>hs.2 e)
  have hc:∀ (o:Nat) (v:Value),w.cell? ⟨b,o,none⟩=some v→w3.cell? ⟨b,o,none⟩=some v:=fun o v hv=>(World.cell?_of_block (hW3.2.2.1.block _ (World.block_lt_of_cell? w _ hv) hb)).trans hv
  exact ⟨b,off,rfl,hc _ _ x0,hc _ _ x1,hc _ _ x2⟩
 have hput:=putTokens_yes w3 R a2 c2 b2 _ (fun k=>k=G∨k=K) (some ⟨G,0,none⟩) 288 fixL (some ⟨K,0,none⟩) 32 fixD ta tc ts hW3.1 (by simp only [wdN];omega)
  (hT.a.rdG fixL_len (.inl rfl)) (hT.b.rdG fixD_len (.inr rfl))
  (fun k hk=>by
   have h1:=hT.g
   have h2:=hT.h
   have hk2:w2.heap.size≤k:=by rcases hk with rfl | rfl <;> assumption
   exact ⟨by omega,fun e=>by have:=hAlt k e;omega⟩)
  fixL_ok fixD_ok (fixL_has 256 (by omega)) hr3
  (fun hne a ha=>by
   have hs:=HSep.out hne a ha
   refine ⟨hs.1,fun e=>?_⟩
   rcases hW3.2.2.2 _ e with h | h
   ·exact hs.2 h
   ·have hj:0 < ts.length:=by cases ts with
     | nil=>exact absurd rfl hne
     | cons _ _=>simp
    obtain ⟨b,off,hta,x0,_⟩:=HR.out 0 hj
    rw [ha] at hta
    cases hta
    have:=World.block_lt_of_cell? w _ x0
    simp only at this h
    omega)
  HTl.out HTs.out
 rw [fixL_len,fixD_len] at hput
 have HPut:=Hd hput
 have HW3:=Hd hW3
 clear hput hW3 hr3 hT hRlt hAlt HF
 go_wp2_with fail
 refine HPut.out.mono ?_
 rintro e w4 ⟨ws,a4,c4,b4,rfl,hws,hW4⟩
 have HWs:=Hd hws
 have HW4:=Hd (HW3.out.app hW4)
 clear hws hW4 HPut
 go_wp2
 go_ret
 exact ⟨ws,a4,c4,b4,rfl,HWs.out,HW4.out⟩
def lastI (B:Nat→Nat):Nat→Nat→Nat
 | 0,_=>0
 | H+1,n=>if B (H+1)≤n then H+1 else lastI B H n
theorem lastI_eq (B:Nat→Nat)(n i:Nat)(h:B i≤n):∀ H,i≤H→(∀ k,i < k→k≤H→n < B k)→lastI B H n=i
 | 0,hi,_=>by unfold lastI;omega
 | H+1,hi,hk=>by
  unfold lastI
  by_cases e:i=H+1
  ·subst e;rw [if_pos h]
  ·rw [if_neg (by have:=hk (H+1) (by omega) (Nat.le_refl _);omega)]
   exact lastI_eq B n i h H (by omega) (fun k h1 h2=>hk k h1 (by omega))
def litSy (t:Tk):Nat:=if t.l=0 then t.c.toNat else if t.l=258 then 285 else 257+lastI lb 27 t.l.toNat
def distSy (t:Tk):Nat:=lastI db 29 t.d.toNat
theorem lb_last {i v:Nat}(hi:i < 28)(hv:v < 2 ^ le4 i):lastI lb 27 (lb i+v)=i:=
 lastI_eq lb _ i (by omega) 27 (by omega) (fun k h1 h2=>by have:=lb_next k (by omega) i (by omega) h1;omega)
theorem db_last {j u:Nat}(hj:j < 30)(hu:u < 2 ^ de j):lastI db 29 (db j+u)=j:=
 lastI_eq db _ j (by omega) 29 (by omega) (fun k h1 h2=>by have:=db_next k (by omega) j (by omega) h1;omega)
def incAt (L:List Int)(k:Nat):List Int:=L.set k (L.getD k 0+1)
theorem incAt_len (L:List Int)(k:Nat):(incAt L k).length=L.length:=List.length_set
theorem incAt_get (L:List Int)(k i:Nat):(incAt L k).getD i 0≤L.getD i 0+1∧L.getD i 0≤(incAt L k).getD i 0:=by
 unfold incAt
 simp only [List.getD,List.getElem?_set]
 by_cases h:k=i
 ·subst h
  rw [if_pos rfl]
  by_cases hl:k < L.length
  ·rw [if_pos hl,List.getElem?_eq_getElem hl]
   simp only [Option.getD_some]
   omega
  ·rw [if_neg hl,List.getElem?_eq_none (by omega)]
   simp
 ·rw [if_neg h]
  omega
def tally1 (p:List Int × List Int)(t:Tk):List Int × List Int:=if t.ok then (incAt p.1 (litSy t),if t.l=0 then p.2 else incAt p.2 (distSy t)) else p
def tally0:List Int × List Int:=((List.replicate 286 0).set 256 1,List.replicate 30 0)
def tally (ts:List Tk):List Int × List Int:=ts.foldl tally1 tally0
theorem tally_snoc (ts:List Tk)(t:Tk):tally (ts++[t])=tally1 (tally ts) t:=by unfold tally;rw [List.foldl_append];rfl
def CntB (p:List Int × List Int)(n:Nat):Prop:=p.1.length=286∧p.2.length=30∧∀ k,(0≤p.1.getD k 0∧p.1.getD k 0≤(n:Int)+1)∧(0≤p.2.getD k 0∧p.2.getD k 0≤(n:Int))
theorem tally0_b:CntB tally0 0:=by
 refine ⟨by show ((List.replicate 286 (0:Int)).set 256 1).length=286;rw [List.length_set,List.length_replicate],by show (List.replicate 30 (0:Int)).length=30;rw [List.length_replicate],fun k=>⟨?_,?_⟩⟩
 ·unfold tally0
  rw [List.getD,List.getElem?_set]
  by_cases h:256=k
  ·rw [if_pos h,if_pos (by rw [List.length_replicate];omega)];simp
  ·rw [if_neg h]
   by_cases hk:k < 286
   ·rw [List.getElem?_replicate,if_pos hk];simp
   ·rw [List.getElem?_eq_none (by rw [List.length_replicate];omega)];simp
 ·unfold tally0
  by_cases hk:k < 30
  ·rw [List.getD,List.getElem?_replicate,if_pos hk];simp
  ·rw [List.getD,List.getElem?_eq_none (by rw [List.length_replicate];omega)];simp
theorem CntB.one {p:List Int × List Int}{n:Nat}(h:CntB p n)(t:Tk):CntB (tally1 p t) (n+1):=by
 obtain ⟨h1,h2,h3⟩:=h
 unfold tally1
 by_cases ho:t.ok=true
 ·rw [if_pos ho]
  by_cases hl:t.l=0
  ·rw [if_pos hl]
   refine ⟨by rw [incAt_len];exact h1,h2,fun k=>?_⟩
   have a:=incAt_get p.1 (litSy t) k
   have b:=h3 k
   simp only
   omega
  ·rw [if_neg hl]
   refine ⟨by rw [incAt_len];exact h1,by rw [incAt_len];exact h2,fun k=>?_⟩
   have a:=incAt_get p.1 (litSy t) k
   have a2:=incAt_get p.2 (distSy t) k
   have b:=h3 k
   simp only
   omega
 ·rw [if_neg ho]
  exact ⟨h1,h2,fun k=>by have b:=h3 k;omega⟩
theorem tally_b (ts:List Tk):∀ j,CntB (tally (ts.take j)) j:=by
 intro j
 induction j with
 | zero=>rw [List.take_zero];exact tally0_b
 | succ j ih=>
  by_cases h:j < ts.length
  ·rw [take_snocT ts j h,tally_snoc];exact ih.one _
  ·rw [List.take_of_length_le (by omega)] at ih ⊢
   exact ⟨ih.1,ih.2.1,fun k=>by have:=ih.2.2 k;omega⟩
theorem OwnZ.setAt {w:World}{G n:Nat}{L:List Int}(h:OwnZ w G n L)(j:Nat)(z:Int):OwnZ (w.setCell ⟨G,j,none⟩ (.int .i64 z)) G n (L.set j z):=by
 obtain ⟨s1,_⟩:=World.ownsRow.stored h j (.int .i64 z)
 rw [← List.map_set] at s1
 exact s1
theorem OwnZ.at {w:World}{G n:Nat}{L:List Int}(h:OwnZ w G n L)(hl:L.length=n)(j:Nat)(hj:j < n):w.cell? ⟨G,j,none⟩=some (.int .i64 (L.getD j 0)):=by
 rw [h.cellAt j (by omega),List.getElem?_map,List.getD,List.getElem?_eq_getElem (by omega)]
 rfl
theorem OwnZ.kept {w w':World}{S:Nat→Prop}{G n:Nat}{L:List Int}(h:OwnZ w G n L)(hk:Kept S w w')(hS:¬ S G):OwnZ w' G n L:=
 hk.row h (fun k e=>by
  simp [Value.ownBlock] at e
  subst e;exact hS)
theorem TwoZ.setA {w0 w:World}{G n H m:Nat}{L M:List Int}(h:TwoZ w0 w G n H m L M)(j:Nat)(z:Int):TwoZ w0 (w.setCell ⟨G,j,none⟩ (.int .i64 z)) G n H m (L.set j z) M:=
 have hk:Kept (OneB G) w (w.setCell ⟨G,j,none⟩ (.int .i64 z)):=Kept.setCell (S:=OneB G) (p:=⟨G,j,none⟩) (Kept.refl _ w) (.inl rfl) _
 ⟨h.a.setAt j z,h.b.kept hk (fun e=>h.ne e.symm),Kept.setCell (p:=⟨G,j,none⟩) h.k (.inr h.g) _,h.g,h.h,h.ne⟩
theorem TwoZ.setB {w0 w:World}{G n H m:Nat}{L M:List Int}(h:TwoZ w0 w G n H m L M)(j:Nat)(z:Int):TwoZ w0 (w.setCell ⟨H,j,none⟩ (.int .i64 z)) G n H m L (M.set j z):=
 (h.swap.setA j z).swap
theorem TwoZ.on {w0 w w':World}{G n H m:Nat}{L M:List Int}(h:TwoZ w0 w G n H m L M)(hk:Kept NoB w w'):TwoZ w0 w' G n H m L M:=
 ⟨h.a.kept hk (fun e=>e),h.b.kept hk (fun e=>e),h.k.trans hk,h.g,h.h,h.ne⟩
theorem copy_syms {t:Tk}(hcp:(∃ j u,j < 30∧u < 2 ^ de j∧t=⟨258,((db j+u:Nat):Int),0⟩)∨(∃ i v j u,i < 28∧v < 2 ^ le4 i∧lb i+v≤257∧j < 30∧u < 2 ^ de j∧t=⟨((lb i+v:Nat):Int),((db j+u:Nat):Int),0⟩)):
  ∃ (n d sy X v j E u:Nat),t=⟨(n:Int),(d:Int),0⟩∧1≤n∧257≤sy∧sy < 286∧j < 30∧litSy t=sy∧distSy t=j∧
  (∀ W,Calls Tryz.prog 102 #[.int .i64 (n:Int)] W fun e w'=>e = .returned (.tuple #[.int .i64 (sy:Int),.int .i64 (X:Int),.int .u32 (v:Int)])∧W=w')∧
  (∀ W,Calls Tryz.prog 103 #[.int .i64 (d:Int)] W fun e w'=>e = .returned (.tuple #[.int .i64 (j:Int),.int .i64 (E:Int),.int .u32 (u:Int)])∧W=w'):=by
 rcases hcp with ⟨j,u,hj,hu,rfl⟩ | ⟨i,v,j,u,hi,hv,hlv,hj,hu,rfl⟩
 ·refine ⟨258,db j+u,285,0,0,j,de j,u,rfl,by decide,by decide,by decide,hj,rfl,?_,fun W=>lenSym_last W,fun W=>distSym_any j u (db j+u) W hj hu rfl⟩
  unfold distSy
  rw [Int.toNat_natCast]
  exact db_last hj hu
 ·have h3:=lb_top i hi
  refine ⟨lb i+v,db j+u,257+i,le4 i,v,j,de j,u,rfl,by omega,by omega,by omega,hj,?_,?_,fun W=>lenSym_any i v (lb i+v) W hi hv rfl hlv,fun W=>distSym_any j u (db j+u) W hj hu rfl⟩
  ·unfold litSy
   rw [if_neg (by simp only;omega),if_neg (by simp only;omega),Int.toNat_natCast,lb_last hi hv]
  ·unfold distSy
   rw [Int.toNat_natCast]
   exact db_last hj hu
theorem counts_any2 (ta:Option Addr)(tc:Nat)(ts:List Tk)(w:World)(hr:Toks w ta ts)(hl:ts.length≤2000000)(hwf:AllT ts):
  Calls Tryz.prog 90 #[.slice ta ts.length tc] w fun e w'=>∃ G H,e = .returned (.tuple #[.slice (some ⟨G,0,none⟩) 286 286,.slice (some ⟨H,0,none⟩) 30 30])∧TwoZ w w' G 286 H 30 (tally ts).1 (tally ts).2:=by
 have HR:=Hd hr
 have HWf:=Hd hwf
 obtain ⟨L,hL⟩:∃ L,L=ts.length:=⟨_,rfl⟩
 have HL:=Hd hL
 rw [← hL] at hl ⊢
 clear hr hL hwf
 obtain ⟨wa,wb,ra,rb,tab⟩:=make_two w.drew 286 30 (by decide) (by decide)
 obtain ⟨wc,wd,rc,rd,tcd⟩:=make_two w.drew 30 286 (by decide) (by decide)
 have T1:=Hd tab;have T2:=Hd tcd
 have ra:(Instr.makeSlice 30 (.int .i64 286) (.int .i64 286)).run Tryz.prog w.drew = .ok (.slice (some ⟨w.heap.size,0,none⟩) 286 286) wa:=ra
 have rb:(Instr.makeSlice 30 (.int .i64 30) (.int .i64 30)).run Tryz.prog wa = .ok (.slice (some ⟨wa.heap.size,0,none⟩) 30 30) wb:=rb
 have rc:(Instr.makeSlice 30 (.int .i64 30) (.int .i64 30)).run Tryz.prog w.drew = .ok (.slice (some ⟨w.heap.size,0,none⟩) 30 30) wc:=rc
 have rd:(Instr.makeSlice 30 (.int .i64 286) (.int .i64 286)).run Tryz.prog wc = .ok (.slice (some ⟨wc.heap.size,0,none⟩) 286 286) wd:=rd
 clear tab tcd
 go_enter Tryz.func90,Tryz.ntmps90
 go_upto_region 1 with fail
 go_cut [2,3] from 9 to 10 (fun s t wx=>∃ G H,s = .slice (some ⟨G,0,none⟩) 286 286∧t = .slice (some ⟨H,0,none⟩) 30 30∧TwoZ w wx G 286 H 30 (List.replicate 286 0) (List.replicate 30 0))
 case first=>
  go_region
  all_goals go_wp2
  all_goals go_meet
  ·exact ⟨_,_,rfl,rfl,T1.out.from⟩
  ·exact ⟨_,_,rfl,rfl,T2.out.swap.from⟩
 case rest=>
  obtain ⟨G,H,rfl,rfl,hT⟩:=hcut
  have hud:=hT.a.at (by simp) 256 (by omega)
  have hfd:=World.ownsRow.frozenAt hT.a 256
  have HT:=Hd (hT.setA 256 1)
  clear hT ra rb rc rd T1 T2
  go_wp2_with fail
  go_loopw [5,6,7,8,15] (fun _a _b _c _d i wr=>∃ j:Nat,j≤L∧i = .int .i64 (j:Int)∧Hid (TwoZ w wr G 286 H 30 (tally (ts.take j)).1 (tally (ts.take j)).2)) (fun _ _ _ _ i _=>L - (intOf i).toNat)
  case atStart=>exact ⟨0,by omega,rfl,HT⟩
  case round=>
   clear HT
   obtain ⟨j,hj,rfl,HT⟩:=hrel
   by_cases hlt:(j:Int) < (L:Int)
   ·have hjt:j < ts.length:=by have:=HL.out;omega
    have hjL:j < L:=by omega
    have hGH:¬ G=H:=HT.out.ne
    have hHG:¬ H=G:=fun e=>HT.out.ne e.symm
    obtain ⟨b,off,rfl,c0,c1,c2⟩:=(HR.out.keptNo HT.out.k) j hjt
    obtain ⟨t,ht⟩:∃ t,t=ts.getD j ⟨0,0,0⟩:=⟨_,rfl⟩
    have hsn:tally (ts.take (j+1))=tally1 (tally (ts.take j)) t:=by rw [take_snocT ts j hjt,tally_snoc,← ht]
    have HSn:=Hd hsn
    have HB:=Hd (tally_b ts j)
    have HTw:=Hd (show t.wf by rw [ht,List.getD,List.getElem?_eq_getElem hjt,Option.getD_some];exact HWf.out _ (List.getElem_mem hjt))
    rw [← ht] at c0 c1 c2
    clear ht hsn
    obtain ⟨p,hp⟩:∃ p,p=tally (ts.take j):=⟨_,rfl⟩
    rw [← hp] at HT HSn HB
    clear hp
    obtain ⟨B,hB⟩:∃ B,B=wr.heap.size:=⟨_,rfl⟩
    have HOk:=Hd (fun W=>ok_any t W)
    obtain ⟨ob,hob⟩:∃ ob,ob=t.ok:=⟨_,rfl⟩
    rw [← hob] at HOk
    have HOb:=Hd hob
    obtain ⟨l,d,c⟩:=t
    unfold Tk.v at HOk
    simp only at c0 c1 c2 HOk
    clear hob hjt
    go_upto_region 10 with fail
    rw [← hB]
    obtain ⟨wb,hwb⟩:∃ wb,wb=wr.alloc (.cells #[.int .i64 l,.int .i64 d,.int .u8 c] 101):=⟨_,rfl⟩
    have hc0:(wr.alloc (.cells #[.int .i64 l,.int .i64 d,.int .u8 c] 101)).cell? ⟨B,0,none⟩=some (.int .i64 l):=by rw [hB];exact cell_new 0 rfl
    have hc1:(wr.alloc (.cells #[.int .i64 l,.int .i64 d,.int .u8 c] 101)).cell? ⟨B,1,none⟩=some (.int .i64 d):=by rw [hB];exact cell_new 1 rfl
    have hc2:(wr.alloc (.cells #[.int .i64 l,.int .i64 d,.int .u8 c] 101)).cell? ⟨B,2,none⟩=some (.int .u8 c):=by rw [hB];exact cell_new 2 rfl
    have hbA:Kept NoB wr (wr.alloc (.cells #[.int .i64 l,.int .i64 d,.int .u8 c] 101)):=(Kept.refl _ _).alloc _
    have hGB:¬ G=B:=fun e=>by have:=own_lt HT.out.a G rfl;omega
    rw [← hwb] at hc0 hc1 hc2 hbA ⊢
    have HTb:=Hd (HT.out.on hbA)
    clear hwb hB c0 c1 c2 hbA HT
    go_wp2_with fail
    refine (HOk.out _).mono ?_
    rintro e w1 ⟨rfl,hk1⟩
    have HT1:=Hd (HTb.out.on hk1)
    replace hc0:=hk1.cell hc0
    replace hc1:=hk1.cell hc1
    replace hc2:=hk1.cell hc2
    clear hk1 HTb
    cases ob with
    | false=>
     have hn:tally1 p ⟨l,d,c⟩=p:=by unfold tally1;rw [if_neg (by rw [← HOb.out];decide)]
     have HT2:Hid (TwoZ w w1 G 286 H 30 (tally (ts.take (j+1))).1 (tally (ts.take (j+1))).2):=Hd (by rw [HSn.out,hn];exact HT1.out)
     clear hn
     go_wp2
     go_roundw
     case rel=>exact ⟨j+1,by omega,by go_num,HT2⟩
     case measure=>simp [intOf];omega
    | true=>
     rcases tok_shape HTw.out HOb.out.symm with ⟨k,hk,he⟩ | hcp
     ·obtain ⟨rfl,rfl,rfl⟩:l=0∧d=0∧c=(k:Int):=by simpa using he
      clear he
      obtain ⟨x,hx⟩:∃ x,x=p.1.getD k 0:=⟨_,rfl⟩
      have hxb:=HB.out.2.2 k
      rw [← hx] at hxb
      have hud:=HT1.out.a.at HB.out.1 k (by omega)
      rw [← hx] at hud
      have hfd:=World.ownsRow.frozenAt HT1.out.a k
      have hx1:0≤x:=by omega
      have hx2:x≤2000001:=by omega
      have hn:tally1 p ⟨0,0,(k:Int)⟩=(p.1.set k (x+1),p.2):=by
       unfold tally1;rw [if_pos HOb.out.symm,if_pos rfl,hx];rfl
      have HT2:Hid (TwoZ w (w1.setCell ⟨G,k,none⟩ (.int .i64 (x+1))) G 286 H 30 (tally (ts.take (j+1))).1 (tally (ts.take (j+1))).2):=Hd (by rw [HSn.out,hn];exact HT1.out.setA k (x+1))
      have hkn:(k:Int) < 286:=by omega
      clear hn hx hxb
      go_wp2
      go_roundw
      case rel=>exact ⟨j+1,by omega,by go_num,HT2⟩
      case measure=>simp [intOf];omega
     ·obtain ⟨n,d',sy,X,v,jj,E,u,he,hn1,hs1,hs2,hj30,hls,hds,hLS,hDS⟩:=copy_syms hcp
      have hn:tally1 p ⟨l,d,c⟩=(incAt p.1 sy,incAt p.2 jj):=by
       unfold tally1;rw [if_pos HOb.out.symm,if_neg (by rw [he];simp only;omega),hls,hds]
      obtain ⟨rfl,rfl,rfl⟩:l=(n:Int)∧d=(d':Int)∧c=0:=by simpa using he
      clear he hcp hls hds
      have HLS:=Hd hLS
      have HDS:=Hd hDS
      obtain ⟨x,hx⟩:∃ x,x=p.1.getD sy 0:=⟨_,rfl⟩
      obtain ⟨y,hy⟩:∃ y,y=p.2.getD jj 0:=⟨_,rfl⟩
      have hxb:=(HB.out.2.2 sy).1
      have hyb:=(HB.out.2.2 jj).2
      rw [← hx] at hxb
      rw [← hy] at hyb
      have hud:=HT1.out.a.at HB.out.1 sy (by omega)
      rw [← hx] at hud
      have hfd:=World.ownsRow.frozenAt HT1.out.a sy
      have hx1:0≤x:=by omega
      have hx2:x≤2000001:=by omega
      have hy1:0≤y:=by omega
      have hy2:y≤2000001:=by omega
      have hkn:(sy:Int) < 286:=by omega
      have hjn:(jj:Int) < 30:=by omega
      have hn0:((n:Int) == 0)=false:=by simp;omega
      have HN:Hid (tally1 p ⟨(n:Int),(d':Int),0⟩=(p.1.set sy (x+1),p.2.set jj (y+1))):=Hd (by rw [hn,hx,hy];rfl)
      have HY:=Hd hy
      clear hn hx hy hxb hyb hLS hDS
      go_wp2_with fail
      refine (HLS.out _).mono ?_
      rintro e wx ⟨rfl,rfl⟩
      go_upto_region 8 with fail
      obtain ⟨w2,hw2⟩:∃ w2,w2=w1.setCell ⟨G,sy,none⟩ (.int .i64 (x+1)):=⟨_,rfl⟩
      have HT2:Hid (TwoZ w w2 G 286 H 30 (p.1.set sy (x+1)) p.2):=Hd (by rw [hw2];exact HT1.out.setA sy (x+1))
      have hk2:Kept (OneB G) w1 w2:=by rw [hw2];exact Kept.setCell (S:=OneB G) (p:=⟨G,sy,none⟩) (Kept.refl _ w1) (.inl rfl) _
      have hd1:w2.cell? ⟨B,1,none⟩=some (.int .i64 (d':Int)):=(World.cell?_of_block (hk2.block B (World.block_lt_of_cell? w1 _ hc1) (fun e=>hGB e.symm))).trans hc1
      rw [← hw2]
      have hud2:=HT2.out.b.at HB.out.2.1 jj (by omega)
      rw [← HY.out] at hud2
      have hfd2:=World.ownsRow.frozenAt HT2.out.b jj
      clear hw2 hk2 hud hfd hc0 hc1 hc2 HT1
      go_wp2_with fail
      refine (HDS.out _).mono ?_
      rintro e wx ⟨rfl,rfl⟩
      have HT3:Hid (TwoZ w (w2.setCell ⟨H,jj,none⟩ (.int .i64 (y+1))) G 286 H 30 (tally (ts.take (j+1))).1 (tally (ts.take (j+1))).2):=Hd (by rw [HSn.out,HN.out];exact HT2.out.setB jj (y+1))
      go_wp2
      go_roundw
      case rel=>exact ⟨j+1,by omega,by go_num,HT3⟩
      case measure=>simp [intOf];omega
   ·obtain rfl:j=L:=by omega
    have HF:Hid (TwoZ w wr G 286 H 30 (tally ts).1 (tally ts).2):=Hd (by
     have h:=HT.out
     rw [List.take_of_length_le (by rw [← HL.out];exact Nat.le_refl _)] at h
     exact h)
    clear HT
    go_wp2
    go_ret2
    exact ⟨G,H,rfl,HF.out⟩
def cntR:List (Int × Int)→List Int→List Int
 | [],W=>W
 | y :: r,W=>cntR r (W.set y.1.toNat (W.getD y.1.toNat 0+1))
theorem cntR_snoc:∀ (rs:List (Int × Int)) (y:Int × Int) (W:List Int),cntR (rs++[y]) W=(cntR rs W).set y.1.toNat ((cntR rs W).getD y.1.toNat 0+1)
 | [],y,W=>rfl
 | z :: r,y,W=>by rw [List.cons_append,cntR,cntR,cntR_snoc r y]
theorem cntR_len:∀ (rs:List (Int × Int)) (W:List Int),(cntR rs W).length=W.length
 | [],W=>rfl
 | z :: r,W=>by rw [cntR,cntR_len r,List.length_set]
def cnt19 (rs:List (Int × Int)):List Int:=cntR rs (List.replicate 19 0)
theorem cnt19_len (rs:List (Int × Int)):(cnt19 rs).length=19:=by unfold cnt19;rw [cntR_len,List.length_replicate]
theorem cnt19_snoc (rs:List (Int × Int))(y:Int × Int):cnt19 (rs++[y])=(cnt19 rs).set y.1.toNat ((cnt19 rs).getD y.1.toNat 0+1):=cntR_snoc _ _ _
theorem cntR_mono:∀ (rs:List (Int × Int)) (W:List Int) (j:Nat),W.getD j 0≤(cntR rs W).getD j 0
 | [],W,j=>Int.le_refl _
 | z :: r,W,j=>by
  rw [cntR]
  refine Int.le_trans ?_ (cntR_mono r _ j)
  by_cases h:z.1.toNat < W.length
  ·rw [getD_setH _ _ _ _ h];split
   ·rename_i e;rw [e];omega
   ·exact Int.le_refl _
  ·rw [List.set_eq_of_length_le (by omega)];exact Int.le_refl _
theorem cntR_pos:∀ (rs:List (Int × Int)) (W:List Int),(∀ j,0≤W.getD j 0)→∀ y∈rs,y.1.toNat < W.length→0 < (cntR rs W).getD y.1.toNat 0
 | [],W,h0,y,hy,hl=>absurd hy (by simp)
 | z :: r,W,h0,y,hy,hl=>by
  have h0':∀ j,0≤(W.set z.1.toNat (W.getD z.1.toNat 0+1)).getD j 0:=fun j=>by
   by_cases h:z.1.toNat < W.length
   ·rw [getD_setH _ _ _ _ h];split
    ·have:=h0 z.1.toNat;omega
    ·exact h0 j
   ·rw [List.set_eq_of_length_le (by omega)];exact h0 j
  rw [cntR]
  rcases List.mem_cons.1 hy with e | h
  ·subst e
   have:=cntR_mono r (W.set y.1.toNat (W.getD y.1.toNat 0+1)) y.1.toNat
   rw [getD_setH _ _ _ _ hl,if_pos rfl] at this
   have:=h0 y.1.toNat
   omega
  ·exact cntR_pos r _ h0' y h (by rw [List.length_set];exact hl)
theorem cntR_small:∀ (rs:List (Int × Int)) (W:List Int) (m:Int),Small m W→Small (m+rs.length) (cntR rs W)
 | [],W,m,h=>by simpa [cntR] using h
 | z :: r,W,m,h=>by
  rw [cntR]
  have hw:Small (m+1) (W.set z.1.toNat (W.getD z.1.toNat 0+1)):=fun b hb=>by
   rcases List.mem_or_eq_of_mem_set hb with h1 | h1
   ·have:=h b h1;omega
   ·by_cases hl:z.1.toNat < W.length
    ·have e:W.getD z.1.toNat 0=W[z.1.toNat]:=by simp [List.getD,hl]
     have:=h _ (List.getElem_mem hl)
     rw [h1,e];omega
    ·have e:W.getD z.1.toNat 0=0:=by simp [List.getD,List.getElem?_eq_none (Nat.le_of_not_lt hl)]
     rw [List.set_eq_of_length_le (by omega)] at hb
     have:=h b hb;omega
  have:=cntR_small r _ (m+1) hw
  rw [List.length_cons]
  have e:m+1+(r.length:Int)=m+((r.length+1:Nat):Int):=by push_cast;omega
  rw [← e];exact this
theorem cnt19_small (rs:List (Int × Int)):Small rs.length (cnt19 rs):=by
 have:=cntR_small rs (List.replicate 19 0) 0 (fun b hb=>by rw [List.eq_of_mem_replicate hb];decide)
 rw [Int.zero_add] at this
 exact this
theorem cnt19_pos (rs:List (Int × Int))(y:Int × Int)(hy:y∈rs)(h:y.1.toNat < 19):0 < (cnt19 rs).getD y.1.toNat 0:=
 cntR_pos rs _ (fun j=>by rw [rep0];exact Int.le_refl _) y hy (by rw [List.length_replicate];exact h)
theorem runAll_ok (n:Int):∀ (rs:List (Int × Int)) (l F:List Int),runAll n l rs=some F→∀ y∈rs,0≤y.1∧y.1≤18∧0≤y.2∧y.2≤spanM y.1
 | [],l,F,h,y,hy=>absurd hy (by simp)
 | (s,x) :: r,l,F,h,y,hy=>by
  rw [runAll] at h
  split at h
  ·rename_i hok
   rcases List.mem_cons.1 hy with e | hm
   ·subst e;exact ⟨hok.1.1,hok.1.2.1,hok.1.2.2.1,hok.1.2.2.2.1⟩
   ·exact runAll_ok n r _ F h y hm
  ·cases h
theorem ref_lens7 (ws:List Int)(lv:List Lf)(hok:LensOkP ws 7)(hs:SrtP lv (leavesL 0 ws)):refS (lensOf lv ws.length 7)=0:=by
 have hF:=lensF ws 7 lv hok hs
 have e15:(7:Int).toNat=7:=rfl
 rw [e15] at hF
 unfold refS
 rw [if_neg]
 by_cases n0:lv.length=0
 ·have e:lensOf lv ws.length 7=List.replicate ws.length 0:=by unfold lensOf;rw [if_pos n0]
  rw [e]
  unfold kindS
  rw [if_pos (by rw [count_rep0];simp)]
  omega
 ·by_cases n1:lv.length=1
  ·have e:lensOf lv ws.length 7=(List.replicate ws.length 0).set (lv.getD 0 (0,0)).1.toNat 1:=by unfold lensOf;rw [if_neg n0,if_pos n1]
   have hm:lv.getD 0 (0,0)∈lv:=getD_mem lv 0 (by omega)
   obtain ⟨_,q,hq,hql⟩:=leaf_place hok.small hs _ hm
   have hc:=count_set ws.length q hql
   rw [e,hq,Int.toNat_natCast]
   unfold kindS
   rw [List.length_set,List.length_replicate,if_neg (by omega),if_pos ⟨by omega,hc.2⟩]
   omega
  ·have hk:=hF.kraft
   rw [if_neg n0,if_neg n1] at hk
   unfold kindS
   rw [hk]
   split
   ·omega
   ·split
    ·omega
    ·simp
theorem code_of (A:List Int)(lv:List Lf)(hok:LensOkP A 7)(hs:SrtP lv (leavesL 0 A))(p:Nat)(hp:p < A.length)(h0:0 < A.getD p 0):
  (lensOf lv A.length 7).length=A.length∧Small 7 (lensOf lv A.length 7)∧fullB (lensOf lv A.length 7)=true∧∀ q,q < A.length→(0 < A.getD q 0↔0 < (lensOf lv A.length 7).getD q 0):=by
 have hF:=lensF A 7 lv hok hs
 have e7:(7:Int).toNat=7:=rfl
 have hr:=ref_lens7 A lv hok hs
 rw [e7] at hF
 obtain ⟨Z,hZ⟩:∃ Z,Z=lensOf lv A.length 7:=⟨_,rfl⟩
 rw [← hZ] at hF hr ⊢
 have hsm:Small 7 Z:=fun z hz=>by
  obtain ⟨q,hq,e⟩:=List.mem_iff_getElem.1 hz
  have h:=hF.bd q (by rw [← hF.len];exact hq)
  have e2:Z.getD q 0=z:=by simp [List.getD,hq,e]
  rw [e2] at h
  omega
 refine ⟨hF.len,hsm,?_,hF.pos⟩
 have hz:=(hF.pos p hp).1 h0
 have hzl:p < Z.length:=by rw [hF.len];exact hp
 have hn1:kindS Z≠1:=by
  unfold kindS
  have hc:Z.length≠Z.count 0:=fun e=>by
   have hall:=List.count_eq_length.1 e.symm
   have e2:Z.getD p 0=Z[p]:=by simp [List.getD,hzl]
   have:=hall _ (List.getElem_mem hzl)
   rw [e2,← this] at hz
   omega
  rw [if_neg hc]
  split
  ·decide
  ·split
   ·decide
   ·split <;> decide
 unfold fullB kindA
 have hlen:=hok.len
 rw [if_pos ⟨by rw [hF.len];exact hlen,small7_15 hsm⟩]
 unfold refS at hr
 rcases kindS_of Z with k | k | k | k | k <;> simp [k] at hr hn1 ⊢
structure TrimW (least:Nat)(zs:List Int)(n:Nat):Prop where
 lo:least≤n
 hi:n≤zs.length
 tail:∀ i,n≤i→i < zs.length→zs.getD i 0=0
structure TrimP (least:Nat)(zs:List Int)(n:Nat):Prop extends TrimW least zs n where
 top:n=least∨zs.getD (n - 1) 0≠0
theorem TrimP.eq {least n:Nat}{zs:List Int}(h:TrimP least zs n):zs=zs.take n++List.replicate (zs.length - n) 0:=by
 apply List.ext_getElem?
 intro i
 by_cases h1:i < n
 ·rw [List.getElem?_append_left (by rw [List.length_take];have:=h.hi;omega),List.getElem?_take,if_pos h1]
 ·rw [List.getElem?_append_right (by rw [List.length_take];omega),List.getElem?_replicate,List.length_take]
  by_cases h2:i < zs.length
  ·have:=h.tail i (by omega) h2
   rw [List.getD,List.getElem?_eq_getElem h2,Option.getD_some] at this
   have hi:=h.hi
   rw [List.getElem?_eq_getElem h2,this,if_pos (by omega)]
  ·have hi:=h.hi
   rw [List.getElem?_eq_none (by omega),if_neg (by omega)]
theorem tail_kind (k:Nat)(L:List Int):kindS (L++List.replicate k 0)=kindS L:=by
 have h0:(L++List.replicate k 0).count 0=L.count 0+k:=by rw [List.count_append,count_rep0]
 have h1:(L++List.replicate k 0).count 1=L.count 1:=by
  rw [List.count_append,List.count_replicate];simp
 have hk:kraftL (L++List.replicate k 0)=kraftL L:=by rw [kraft_append,kraft_zero];omega
 have hl:(L++List.replicate k 0).length=L.length+k:=by simp
 unfold kindS
 rw [h0,h1,hk,hl]
 have e1:(L.length+k=L.count 0+k)=(L.length=L.count 0):=by apply propext;omega
 have e2:(L.length+k=L.count 0+k+1∧L.count 1=1)=(L.length=L.count 0+1∧L.count 1=1):=by apply propext;omega
 simp only [e1,e2]
theorem TrimP.kind {least n:Nat}{zs:List Int}(h:TrimP least zs n):kindS (zs.take n)=kindS zs:=by
 conv=>rhs;rw [h.eq]
 rw [tail_kind]
theorem TrimP.get {least n:Nat}{zs:List Int}(h:TrimP least zs n)(i:Nat)(hi:0 < zs.getD i 0):i < n∧(zs.take n).getD i 0=zs.getD i 0:=by
 have hl:i < zs.length:=by
  apply Classical.byContradiction;intro hn
  rw [List.getD,List.getElem?_eq_none (by omega)] at hi;simp at hi
 have hn:i < n:=by
  apply Classical.byContradiction;intro hn
  have:=h.tail i (by omega) hl
  omega
 refine ⟨hn,?_⟩
 rw [List.getD,List.getD,List.getElem?_take,if_pos hn]
theorem TrimP.len {least n:Nat}{zs:List Int}(h:TrimP least zs n):(zs.take n).length=n:=by
 rw [List.length_take];have:=h.hi;omega
theorem kraft_le_tail (k:Nat):∀ (A L:List Int),costL A (L++List.replicate k 0)=costL A L
 | [],L=>by cases L <;> cases k <;> simp [costL,List.replicate_succ]
 | a :: A,[]=>by
  rw [List.nil_append]
  cases k with
  | zero=>rfl
  | succ k=>
   rw [List.replicate_succ,costL]
   have:=kraft_le_tail k A []
   rw [List.nil_append] at this
   rw [this]
   cases A <;> simp [costL]
 | a :: A,z :: L=>by
  rw [List.cons_append,costL,costL,kraft_le_tail k A L]
def BestL (least:Nat)(ws zs:List Int):Prop:=∃ lv n,SrtP lv (leavesL 0 ws)∧TrimP least (lensOf lv ws.length 15) n∧zs=(lensOf lv ws.length 15).take n
theorem BestL.facts {least:Nat}{ws zs:List Int}(h:BestL least ws zs)(hok:LensOkP ws 15):
  CodeOk zs∧least≤zs.length∧zs.length≤ws.length∧(∀ k,0 < ws.getD k 0→k < zs.length∧0 < zs.getD k 0)∧∃ lv,SrtP lv (leavesL 0 ws)∧costL ws zs=leastL (lv.map (·.2)) 15:=by
 obtain ⟨lv,n,hs,ht,rfl⟩:=h
 have hF:=lensF ws 15 lv hok hs
 have e15:(15:Int).toNat=15:=rfl
 rw [e15] at hF
 have hr:=ref_lens ws lv hok hs
 have hsm:Small 15 (lensOf lv ws.length 15):=fun z hz=>by
  obtain ⟨q,hq,e⟩:=List.mem_iff_getElem.1 hz
  have h:=hF.bd q (by rw [← hF.len];exact hq)
  have e2:(lensOf lv ws.length 15).getD q 0=z:=by simp [List.getD,hq,e]
  rw [e2] at h
  exact h
 refine ⟨⟨?_,fun z hz=>hsm z (List.mem_of_mem_take hz),?_⟩,?_,?_,?_,?_⟩
 ·rw [ht.len];have:=ht.hi;have:=hF.len;have:=hok.len;omega
 ·unfold refS at hr ⊢
  rw [ht.kind];exact hr
 ·rw [ht.len];exact ht.lo
 ·rw [ht.len];have:=ht.hi;have:=hF.len;omega
 ·intro k hk
  have hkl:k < ws.length:=by
   apply Classical.byContradiction;intro hn
   rw [List.getD,List.getElem?_eq_none (by omega)] at hk;simp at hk
  have h1:=(hF.pos k hkl).1 hk
  have h2:=ht.get k h1
  rw [ht.len,h2.2]
  exact ⟨h2.1,h1⟩
 ·have hc:=hF.cost
  rw [ht.eq,kraft_le_tail] at hc
  exact ⟨lv,hs,hc⟩
theorem full_of {zs:List Int}(h:CodeOk zs){p:Nat}(hp:p < zs.length)(hz:0 < zs.getD p 0):fullB zs=true:=by
 obtain ⟨h1,h2,hr⟩:=h
 have hn1:kindS zs≠1:=by
  unfold kindS
  have hc:zs.length≠zs.count 0:=fun e=>by
   have hall:=List.count_eq_length.1 e.symm
   have e2:zs.getD p 0=zs[p]:=by simp [List.getD,hp]
   have:=hall _ (List.getElem_mem hp)
   rw [e2,← this] at hz
   omega
  rw [if_neg hc]
  split
  ·decide
  ·split
   ·decide
   ·split <;> decide
 unfold fullB kindA
 rw [if_pos ⟨h1,h2⟩]
 unfold refS at hr
 rcases kindS_of zs with k | k | k | k | k <;> simp [k] at hr hn1 ⊢
theorem dist_of {zs:List Int}(h:CodeOk zs):fullB zs=true∨kindA zs=1:=by
 obtain ⟨h1,h2,hr⟩:=h
 unfold fullB kindA
 rw [if_pos ⟨h1,h2⟩]
 unfold refS at hr
 rcases kindS_of zs with k | k | k | k | k <;> simp [k] at hr ⊢
theorem tally1_mono (p:List Int × List Int)(t:Tk):(∀ k,p.1.getD k 0≤(tally1 p t).1.getD k 0)∧(∀ k,p.2.getD k 0≤(tally1 p t).2.getD k 0):=by
 unfold tally1
 split
 ·refine ⟨fun k=>(incAt_get _ _ k).2,fun k=>?_⟩
  simp only
  split
  ·exact Int.le_refl _
  ·exact (incAt_get _ _ k).2
 ·exact ⟨fun k=>Int.le_refl _,fun k=>Int.le_refl _⟩
theorem foldT_mono:∀ (ts:List Tk) (p:List Int × List Int),(∀ k,p.1.getD k 0≤(ts.foldl tally1 p).1.getD k 0)∧(∀ k,p.2.getD k 0≤(ts.foldl tally1 p).2.getD k 0)
 | [],p=>⟨fun k=>Int.le_refl _,fun k=>Int.le_refl _⟩
 | t :: ts,p=>by
  have h1:=tally1_mono p t
  have h2:=foldT_mono ts (tally1 p t)
  exact ⟨fun k=>Int.le_trans (h1.1 k) (h2.1 k),fun k=>Int.le_trans (h1.2 k) (h2.2 k)⟩
theorem incAt_at (L:List Int)(k:Nat)(hk:k < L.length):(incAt L k).getD k 0=L.getD k 0+1:=by
 unfold incAt
 rw [List.getD,List.getElem?_set,if_pos rfl,if_pos hk];rfl
theorem foldT_has:∀ (ts:List Tk) (p:List Int × List Int) (n:Nat),CntB p n→∀ t∈ts,t.ok=true→(litSy t < 286→0 < (ts.foldl tally1 p).1.getD (litSy t) 0)∧(t.l≠0→distSy t < 30→0 < (ts.foldl tally1 p).2.getD (distSy t) 0)
 | [],p,n,_,t,h,_=>by cases h
 | x :: ts,p,n,hp,t,h,hok=>by
  rcases List.mem_cons.1 h with rfl | h
  ·have h2:=foldT_mono ts (tally1 p t)
   have hb:=hp.2.2
   refine ⟨fun hs=>?_,fun hl hs=>?_⟩
   ·have h3:=h2.1 (litSy t)
    have h4:(tally1 p t).1.getD (litSy t) 0=p.1.getD (litSy t) 0+1:=by
     unfold tally1;rw [if_pos hok];exact incAt_at _ _ (by rw [hp.1];exact hs)
    have:=hb (litSy t)
    rw [List.foldl_cons];omega
   ·have h3:=h2.2 (distSy t)
    have h4:(tally1 p t).2.getD (distSy t) 0=p.2.getD (distSy t) 0+1:=by
     unfold tally1;rw [if_pos hok];simp only [if_neg hl];exact incAt_at _ _ (by rw [hp.2.1];exact hs)
    have:=hb (distSy t)
    rw [List.foldl_cons];omega
  ·exact foldT_has ts (tally1 p x) (n+1) (hp.one x) t h hok
theorem tally_end (ts:List Tk):0 < (tally ts).1.getD 256 0:=by
 have h:=(foldT_mono ts tally0).1 256
 have h0:tally0.1.getD 256 0=1:=by
  show ((List.replicate 286 (0:Int)).set 256 1).getD 256 0=1
  rw [List.getD,List.getElem?_set,if_pos rfl,if_pos (by rw [List.length_replicate];omega)];rfl
 unfold tally
 omega
theorem tally_b2 (ts:List Tk):CntB (tally ts) ts.length:=by
 have h:=tally_b ts ts.length
 rwa [List.take_length] at h
theorem small_tally {L:List Int}{n:Nat}(hn:n≤999999)(h:∀ k,0≤L.getD k 0∧L.getD k 0≤(n:Int)+1):Small 1000000 L:=fun z hz=>by
 obtain ⟨q,hq,e⟩:=List.mem_iff_getElem.1 hz
 have h1:=h q
 have e2:L.getD q 0=z:=by simp [List.getD,hq,e]
 rw [e2] at h1
 omega
theorem lensOk_tally (ts:List Tk)(hl:ts.length≤999999):LensOkP (tally ts).1 15∧LensOkP (tally ts).2 15:=by
 have hb:=tally_b2 ts
 refine ⟨⟨by rw [hb.1];omega,by omega,small_tally hl (fun k=>(hb.2.2 k).1),?_⟩,⟨by rw [hb.2.1];omega,by omega,small_tally hl (fun k=>⟨(hb.2.2 k).2.1,by have:=(hb.2.2 k).2.2;omega⟩),?_⟩⟩
 ·have:=leaves_len (tally ts).1 0
  rw [hb.1] at this
  have e:(2:Nat) ^ (15:Int).toNat=32768:=rfl
  rw [e];omega
 ·have:=leaves_len (tally ts).2 0
  rw [hb.2.1] at this
  have e:(2:Nat) ^ (15:Int).toNat=32768:=rfl
  rw [e];omega
theorem best_head {ts:List Tk}{lit dist:List Int}(hl:ts.length≤999999)(h1:BestL 257 (tally ts).1 lit)(h2:BestL 1 (tally ts).2 dist):
  CodeOk lit∧CodeOk dist∧HasC lit 256∧headB lit dist=true:=by
 obtain ⟨hk1,hk2⟩:=lensOk_tally ts hl
 obtain ⟨a1,a2,a3,a4,a5⟩:=h1.facts hk1
 obtain ⟨b1,b2,b3,b4,b5⟩:=h2.facts hk2
 have hb:=tally_b2 ts
 have he:=a4 256 (tally_end ts)
 have hfull:=full_of a1 he.1 he.2
 refine ⟨a1,b1,⟨256,rfl,he.1,he.2⟩,?_⟩
 unfold headB mayB
 have hd:(fullB dist || decide (kindA dist=1))=true:=by
  rcases dist_of b1 with h | h
  ·rw [h];rfl
  ·rw [h];simp
 rw [hb.1] at a3
 rw [hb.2.1] at b3
 rw [hfull,hd,decide_eq_true he.2,decide_eq_true (show 257≤lit.length∧lit.length≤286∧1≤dist.length∧dist.length≤30 from ⟨a2,a3,b2,b3⟩)]
 rfl
theorem best_toks {ts:List Tk}{lit dist:List Int}(hl:ts.length≤999999)(hwf:AllT ts)(hok:allOkB ts=true)(h1:BestL 257 (tally ts).1 lit)(h2:BestL 1 (tally ts).2 dist):∀ t∈ts,∃ ws,TokW lit dist t ws:=by
 intro t ht
 obtain ⟨hk1,hk2⟩:=lensOk_tally ts hl
 obtain ⟨a1,a2,a3,a4,a5⟩:=h1.facts hk1
 obtain ⟨b1,b2,b3,b4,b5⟩:=h2.facts hk2
 have ho:=allOkB_mem hok t ht
 have hh:=foldT_has ts tally0 0 tally0_b t ht ho
 have hlit:litSy t < 286→HasC lit ((litSy t:Nat):Int):=fun h=>⟨litSy t,rfl,(a4 _ (hh.1 h)).1,(a4 _ (hh.1 h)).2⟩
 have hdist:t.l≠0→distSy t < 30→HasC dist ((distSy t:Nat):Int):=fun h0 h=>⟨distSy t,rfl,(b4 _ (hh.2 h0 h)).1,(b4 _ (hh.2 h0 h)).2⟩
 rcases tok_shape (hwf t ht) ho with ⟨c,hc,rfl⟩ | ⟨j,u,hj,hu,rfl⟩ | ⟨i,v,j,u,hi,hv,hlv,hj,hu,rfl⟩
 ·exact ⟨_,.one c (by omega) (by omega) (by simpa [litSy] using hlit (by simp [litSy];omega))⟩
 ·have hd:distSy ⟨258,((db j+u:Nat):Int),0⟩=j:=by unfold distSy;rw [Int.toNat_natCast];exact db_last hj hu
  have hs:litSy ⟨258,((db j+u:Nat):Int),0⟩=285:=rfl
  rw [hd] at hdist
  rw [hs] at hlit
  exact ⟨_,.long j u hj hu (hlit (by omega)) (hdist (by show (258:Int)≠0;decide) hj)⟩
 ·have h3:=lb_top i hi
  have hd:distSy ⟨((lb i+v:Nat):Int),((db j+u:Nat):Int),0⟩=j:=by unfold distSy;rw [Int.toNat_natCast];exact db_last hj hu
  have hs:litSy ⟨((lb i+v:Nat):Int),((db j+u:Nat):Int),0⟩=257+i:=by
   unfold litSy
   rw [if_neg (by simp only;omega),if_neg (by simp only;omega),Int.toNat_natCast,lb_last hi hv]
  rw [hd] at hdist
  rw [hs] at hlit
  exact ⟨_,.copy i v j u hi hv hlv hj hu (hlit (by omega)) (hdist (by simp only;omega) hj)⟩

/-- Few bytes are stored as one block. -/
theorem storeAll_few (w:World)(R:Nat)(ao:Option Addr)(cap:Nat)(bs:List Int)(s:Nat)(last:Bool)(ba:Option Addr)(bc:Nat)(b:List Int)(h:Wtr w R ao cap bs s)(hs:s≤700000000000)(hr:Reads w ba b)(hb:AllB b)(hl:b.length≤65535)
  (hsep:∀ a,ba=some a→a.block≠R∧(Value.slice ao bs.length cap).ownBlock≠some a.block):
  Calls Tryz.prog 26 #[.pointer (some ⟨R,0,none⟩),.slice ba b.length bc,.bool last] w fun e w'=>∃ ao' cap' bs',e = .returned (.tuple #[])∧WroteP w R (.slice ao bs.length cap) bs s (storedW last (up8 (s+3) - (s+3)) b) w' ao' cap' bs':=by
 have HS:=Hd (stored_yes w R ao cap bs s last ba bc b h hs hr hb hl hsep)
 obtain ⟨n,hn⟩:∃ n,n=b.length:=⟨_,rfl⟩
 rw [← hn] at HS hl ⊢
 clear h hr hb hsep hn
 go_enter Tryz.func26,Tryz.ntmps26
 go_wp2_with fail
 go_loopw [1] (fun v wr=>v = .slice ba n bc∧w=wr) (fun _ _=>0)
 case atStart=>exact ⟨rfl,rfl⟩
 case round=>
  obtain ⟨rfl,rfl⟩:=hrel
  have hg:¬ ((65535:Int) < (n:Int)):=by omega
  go_wp2_with fail
  refine HS.out.mono ?_
  rintro e w1 ⟨ao',cap',bs',rfl,hW⟩
  have HW:=Hd hW
  clear hW HS
  go_wp2
  refine bodyPost_end (results_none rfl _ _ _) rfl ?_
  exact ⟨ao',cap',bs',rfl,HW.out⟩







end Go.Proofs.YtfmjfgmbjdhogaaGreatDoor
namespace Go.Proofs.YtfmjfgmbjdhogaaGreatDoor
open Go.RowKit
structure Two (T1 T2:TypeId)(w0 w:World)(A:Nat)(aoa:Option Addr)(capa:Nat)(ba:List Int)(sa:Nat)(B:Nat)(aob:Option Addr)(capb:Nat)(bb:List Int)(sb:Nat):Prop where
 a:WtrT T1 w A aoa capa ba sa
 b:WtrT T2 w B aob capb bb sb
 ne:A≠B
 fa:w0.heap.size≤A
 fb:w0.heap.size≤B
 oa:∀ k,(Value.slice aoa ba.length capa).ownBlock=some k→w0.heap.size≤k
 ob:∀ k,(Value.slice aob bb.length capb).ownBlock=some k→w0.heap.size≤k
 ab:∀ k,(Value.slice aoa ba.length capa).ownBlock=some k→(Value.slice aob bb.length capb).ownBlock≠some k
 ta:T1≠5
 tb:T2≠5
 bel:Below w0.heap.size w0 w
variable {T1 T2 : TypeId} {w0 w w' : World} {A : Nat} {aoa : Option Addr} {capa : Nat} {ba : List Int} {sa : Nat} {B : Nat} {aob : Option Addr} {capb : Nat} {bb : List Int} {sb : Nat}
end Go.Proofs.YtfmjfgmbjdhogaaGreatDoor
namespace Go.Proofs.YtfmjfgmbjdhogaaGreatDoor
open Go.RowKit


def litX (t:Tk):Nat:=if t.l=258 then 0 else le4 (lastI lb 27 t.l.toNat)
def litV (t:Tk):Nat:=if t.l=258 then 0 else t.l.toNat - lb (lastI lb 27 t.l.toNat)
def distV (t:Tk):Nat:=t.d.toNat - db (distSy t)
theorem sy_long {j u:Nat}(hj:j < 30)(hu:u < 2 ^ de j):litSy ⟨258,((db j+u:Nat):Int),0⟩=285∧litV ⟨258,((db j+u:Nat):Int),0⟩=0∧litX ⟨258,((db j+u:Nat):Int),0⟩=0∧distSy ⟨258,((db j+u:Nat):Int),0⟩=j∧distV ⟨258,((db j+u:Nat):Int),0⟩=u:=by
 have hd:distSy ⟨258,((db j+u:Nat):Int),0⟩=j:=by unfold distSy;rw [Int.toNat_natCast];exact db_last hj hu
 refine ⟨rfl,rfl,rfl,hd,?_⟩
 unfold distV
 rw [hd,Int.toNat_natCast];omega
theorem sy_copy {i v j u:Nat}(hi:i < 28)(hv:v < 2 ^ le4 i)(hlv:lb i+v≤257)(hj:j < 30)(hu:u < 2 ^ de j):litSy ⟨((lb i+v:Nat):Int),((db j+u:Nat):Int),0⟩=257+i∧litV ⟨((lb i+v:Nat):Int),((db j+u:Nat):Int),0⟩=v∧
  litX ⟨((lb i+v:Nat):Int),((db j+u:Nat):Int),0⟩=le4 i∧distSy ⟨((lb i+v:Nat):Int),((db j+u:Nat):Int),0⟩=j∧distV ⟨((lb i+v:Nat):Int),((db j+u:Nat):Int),0⟩=u:=by
 have h3:=lb_top i hi
 have hd:distSy ⟨((lb i+v:Nat):Int),((db j+u:Nat):Int),0⟩=j:=by unfold distSy;rw [Int.toNat_natCast];exact db_last hj hu
 have hn:¬ ((lb i+v:Nat):Int)=258:=by omega
 refine ⟨?_,?_,?_,hd,?_⟩
 ·unfold litSy
  rw [if_neg (by simp only;omega),if_neg (by simp only;omega),Int.toNat_natCast,lb_last hi hv]
 ·unfold litV
  rw [if_neg hn,Int.toNat_natCast,lb_last hi hv];omega
 ·unfold litX
  rw [if_neg hn,Int.toNat_natCast,lb_last hi hv]
 ·unfold distV
  rw [hd,Int.toNat_natCast];omega
end Go.Proofs.YtfmjfgmbjdhogaaGreatDoor
