import Derived.Test.YtfmjfgmbjdhogaaGreatDoorMb19
import Derived.Lib.AppendZerosOnto
import Derived.Deep.CutBlock
import Derived.Deep.DeepCutAuto
import Derived.Deep.RegionHeld3
import Derived.BigRegion
import Derived.Deep.RegionLaw
set_option linter.unusedVariables false
set_option linter.unusedSimpArgs false
set_option maxRecDepth 20000
set_option maxHeartbeats 8000000
namespace Go.Proofs.YtfmjfgmbjdhogaaGreatDoor
open Go.RowKit
theorem cost_inc:∀ (L Z:List Int) (k:Nat),k < L.length→costL (incAt L k) Z=costL L Z+Z.getD k 0
 | [],Z,k,h=>absurd h (by simp)
 | a :: L,[],0,h=>by simp [incAt,costL]
 | a :: L,[],k+1,h=>by simp [incAt,costL]
 | a :: L,z :: Z,0,h=>by
  have e:incAt (a :: L) 0=(a+1) :: L:=rfl
  rw [e,costL,costL,Int.add_mul]
  show a*z+1*z+costL L Z=a*z+costL L Z+z
  omega
 | a :: L,z :: Z,k+1,h=>by
  have e:incAt (a :: L) (k+1)=a :: incAt L k:=rfl
  rw [e,costL,costL,cost_inc L Z k (by simpa using h)]
  show a*z+(costL L Z+Z.getD k 0)=a*z+costL L Z+Z.getD k 0
  omega
def extraT (t:Tk):Nat:=if t.l=0 then 0 else litX t+de (distSy t)
def extraS:List Tk→Nat
 | []=>0
 | t :: r=>extraT t+extraS r
theorem word_wd {L:List Int}{k:Nat}(h:HasC L (k:Int)):(((wordZ L (k:Int)).2:Nat):Int)=L.getD k 0:=by
 obtain ⟨k',hk,hkl,h0⟩:=h
 obtain rfl:k=k':=by omega
 unfold wordZ;rw [Int.toNat_natCast];simp only;omega
theorem TokW.cost {lit dist:List Int}{t:Tk}{ws:List (Nat × Nat)}(h:TokW lit dist t ws):
  litSy t < 286∧(t.l≠0→distSy t < 30)∧((wdN ws:Nat):Int)=lit.getD (litSy t) 0+(if t.l=0 then 0 else dist.getD (distSy t) 0)+(extraT t:Int):=by
 cases h with
 | one c h0 h1 hc=>
  obtain ⟨k,rfl⟩:∃ k:Nat,c=(k:Int):=⟨c.toNat,by omega⟩
  have hw:=word_wd hc
  have hs:litSy ⟨0,0,(k:Int)⟩=k:=by simp [litSy]
  refine ⟨by rw [hs];omega,fun h=>absurd rfl h,?_⟩
  rw [hs]
  simp only [wdN,extraT,if_pos]
  omega
 | long j u hj hu hc hd=>
  obtain ⟨e1,e2,e3,e4,e5⟩:=sy_long hj hu
  have hc2:HasC lit ((285:Nat):Int):=hc
  have hw:=word_wd hc2
  have hw2:=word_wd hd
  have h2:¬ (258:Int)=0:=by decide
  rw [e1,e4]
  refine ⟨by decide,fun _=>hj,?_⟩
  unfold extraT
  rw [e3,e4]
  simp only [wdN,if_neg h2]
  have hw':(((wordZ lit 285).2:Nat):Int)=lit.getD 285 0:=hw
  omega
 | copy i v j u hi hv hlv hj hu hc hd=>
  have h3:=lb_top i hi
  obtain ⟨e1,e2,e3,e4,e5⟩:=sy_copy hi hv hlv hj hu
  have hw:=word_wd hc
  have hw2:=word_wd hd
  have h2:¬ ((lb i+v:Nat):Int)=0:=by omega
  rw [e1,e4]
  refine ⟨by omega,fun _=>hj,?_⟩
  unfold extraT
  rw [e3,e4]
  simp only [wdN,if_neg h2]
  omega
theorem fold_cost {lit dist:List Int}:∀ {ts:List Tk} {ws:List (Nat × Nat)},TokWs lit dist ts ws→(∀ t∈ts,t.ok=true)→∀ (p:List Int × List Int) (n:Nat),CntB p n→
  ((wdN ws:Nat):Int)=costL (ts.foldl tally1 p).1 lit+costL (ts.foldl tally1 p).2 dist - costL p.1 lit - costL p.2 dist+(extraS ts:Int):=by
 intro ts ws h
 induction h with
 | nil=>intro _ p n hp;simp [wdN,extraS];omega
 | @cons t r ws vs a b ih=>
  intro hok p n hp
  have h1:=ih (fun x hx=>hok x (List.mem_cons_of_mem _ hx)) (tally1 p t) (n+1) (hp.one t)
  obtain ⟨h2,h3,h4⟩:=a.cost
  have ho:=hok t (List.mem_cons_self ..)
  rw [List.foldl_cons,wdN_append,extraS]
  have h5:costL (tally1 p t).1 lit=costL p.1 lit+lit.getD (litSy t) 0:=by
   unfold tally1;rw [if_pos ho];exact cost_inc _ _ _ (by rw [hp.1];exact h2)
  have h6:costL (tally1 p t).2 dist=costL p.2 dist+(if t.l=0 then 0 else dist.getD (distSy t) 0):=by
   unfold tally1;rw [if_pos ho];simp only
   by_cases hl:t.l=0
   ·rw [if_pos hl,if_pos hl];omega
   ·rw [if_neg hl,if_neg hl];exact cost_inc _ _ _ (by rw [hp.2.1];exact h3 hl)
  rw [h5,h6] at h1
  omega
theorem cost_rep0:∀ (n:Nat) (Z:List Int),costL (List.replicate n 0) Z=0
 | 0,Z=>by simp [costL]
 | n+1,[]=>by simp [costL,List.replicate_succ]
 | n+1,z :: Z=>by rw [List.replicate_succ,costL,cost_rep0 n Z];omega
theorem wd_cost {lit dist:List Int}{ts:List Tk}{ws:List (Nat × Nat)}(h:TokWs lit dist ts ws)(hok:allOkB ts=true)(he:HasC lit 256):
  ((wdN (ws++[wordZ lit 256]):Nat):Int)=costL (tally ts).1 lit+costL (tally ts).2 dist+(extraS ts:Int):=by
 have h1:=fold_cost h (fun t ht=>allOkB_mem hok t ht) tally0 0 tally0_b
 have he2:HasC lit ((256:Nat):Int):=he
 have hw:(((wordZ lit 256).2:Nat):Int)=lit.getD 256 0:=word_wd he2
 have h2:costL tally0.1 lit=lit.getD 256 0:=by
  have e:tally0.1=incAt (List.replicate 286 0) 256:=by
   unfold tally0 incAt
   simp only
   have e0:(List.replicate 286 (0:Int)).getD 256 0=0:=by
    rw [List.getD,List.getElem?_replicate,if_pos (by omega)];rfl
   rw [e0];rfl
  rw [e,cost_inc _ _ _ (by rw [List.length_replicate];omega),cost_rep0];omega
 have h3:costL tally0.2 dist=0:=cost_rep0 30 dist
 rw [h2,h3] at h1
 rw [wdN_append]
 unfold tally
 simp only [wdN]
 omega
theorem emp_sa {w0 w:World}(hk:Kept NoB w0 w)(k:Nat)(he:k=w.heap.size):IntSt w0 (w.alloc (.cells #[] 3)) (some ⟨k,0,none⟩) 0 0 []:=by
 subst he;exact ⟨rfl,World.ownsRow_lit w #[] 0 (Nat.zero_le _) (Nat.zero_le _) rfl,hk.alloc _,fun k e=>by have:=hk.size;simp [Value.ownBlock] at e;omega⟩
theorem wpList_intsA {ops:Array Oper}{rest:List Oper}{o:Oper}{a:Act}{w:World}{Q:Exit→Act→World→Prop}(hgd:o.guard=none)(s x:Operand)
  (ho:o.op = .call { callee := .builtin .append,args:=#[s,x],argTypes:=#[30,30] })
  {w0:World} {a1:Option Addr} {l1 c1:Nat} {zs:List Int} (hS:IntSt w0 w a1 l1 c1 zs) (hs:a.eval s = .slice a1 l1 c1)
  (ad:Addr) (m c:Nat) (news:List Int) (hx:a.eval x = .slice (some ad) m c) (hl:news.length=m) (hnews:∀ j u,(news.map (Value.int .i64))[j]?=some u→w.cell? (ad.add j)=some u) (h63:l1+m≤100000)
  (h:∀ a2 c2 w',IntSt w0 w' a2 (l1+m) c2 (zs++news)→Kept (OwnB (Value.slice a1 l1 c1)) w w'→wpList Tryz.prog ops Q rest (a.put o.dst (.slice a2 (l1+m) c2)) w'):wpList Tryz.prog ops Q (o :: rest) a w:=by
 obtain ⟨i0,hi,hz0,hz1,hz2⟩:=info_parts infoI
 refine wpList_app w hgd s x 30 ho 3 i0 (.int .i64 0) 1 8 (by kernel_rfl) hi hz0 hz1 hz2 rfl (by decide) _ l1 (zs.map (.int .i64)) hs hS.own ad m c (news.map (.int .i64)) hx (by rw [List.length_map,hl,Nat.mul_one]) hnews (fun u hu=>by obtain ⟨y,_,rfl⟩:=List.mem_map.1 hu;rfl) (by unfold maxLen;omega) (by omega) ?_
 intro v' w' h2 h3 h4
 obtain ⟨a2,c2,rfl⟩:=own_shape2 h2
 refine h _ _ _ ⟨by rw [List.length_append,hS.len,hl],by rw [List.map_append];exact h2,hS.kept.grown h3 (fun k hk e=>by have:=hS.fresh k e;omega),?_⟩ ?_
 intro k hk
 rcases h4 k hk with h | h
 ·exact hS.fresh k h
 ·have:=hS.kept.size;omega
 ·exact (Kept.refl _ w).grown h3 (fun k hk e=>e)
theorem grow_nil (n:Nat)(w:World)(hn:1≤n∧n≤100000):
  Calls Tryz.prog 172 #[.slice none 0 0,.int .i64 (n:Int)] w fun e w'=>∃ c,e = .returned (.slice (some ⟨w.heap.size,0,none⟩) 0 c)∧IntSt w w' (some ⟨w.heap.size,0,none⟩) 0 c []:=by
 obtain ⟨i0,hi,hz0,hz1,hz2⟩:=info_parts infoI
 have h1:¬ ((n:Int) < 0):=by omega
 have h2:(0:Int) < (n:Int):=by omega
 have hold:(Builtin.firstCells i0.size 0 (.slice none 0 0)).run Tryz.prog w.drew = .ok #[] w.drew:=run_firstCells_none w.drew i0.size 0 0 0
 have hrz:∀ ty,(Builtin.append_ #[30,3] ty #[.slice none 0 0,.int .i64 (n:Int)]).run Tryz.prog w=
   .ok (.slice (some ⟨w.heap.size,0,none⟩) n (grownCap w n 0 3)) (w.drew.alloc (.cells (([]:List Value).toArray++Builtin.zeroCells (Value.int .i64 0).cells n++Builtin.zeroCells (Value.int .i64 0).cells (grownCap w n 0 3 - n)) 3)):=fun ty=>by
  have h:=Lib.run_append_grow_zeros w 30 3 ty 3 i0 (.int .i64 0) .i64 .i64 Tryz.underlying30 rfl hi hz0 none 0 0 [] hold n (by omega) (by rw [hz1];omega) (by omega) (by omega)
   (by rw [hz2];omega)
   (by rw [Nat.zero_add];exact growslice_fits (by omega) (by rw [hz2];omega))
  rw [Nat.zero_add] at h
  exact h
 have hGn:n≤grownCap w n 0 3:=grownCap_ge w _ _ _
 have hGm:grownCap w n 0 3≤maxLen:=grownCap_le_maxLen w n 0 3 (by unfold maxLen;omega)
 obtain ⟨G,hG⟩:∃ G,G=grownCap w n 0 3:=⟨_,rfl⟩
 rw [← hG] at hrz hGn hGm
 have hcz:∀ k,(Builtin.zeroCells (Value.int .i64 0).cells k).size=k:=fun k=>by simp [Builtin.zeroCells,Value.cells]
 obtain ⟨cs,hcs⟩:∃ cs:Array Value,cs=([]:List Value).toArray++Builtin.zeroCells (Value.int .i64 0).cells n++Builtin.zeroCells (Value.int .i64 0).cells (G - n):=⟨_,rfl⟩
 have hsz:cs.size=G:=by rw [hcs];simp [hcz];omega
 rw [← hcs] at hrz
 have hst:IntSt w (w.drew.alloc (.cells cs 3)) (some ⟨w.heap.size,0,none⟩) 0 G []:=⟨rfl,⟨rfl,.inr ⟨w.heap.size,G,cs,rfl,Nat.zero_le _,by simpa using heap_alloc_new w.drew (.cells cs 3),Nat.zero_le _,hGm,by rw [hsz,Nat.mul_one],by simp⟩⟩,(Kept.drew (Kept.refl NoB w)).alloc _,fun k hk=>by simp [Value.ownBlock] at hk;omega⟩
 have HSt:=Hd hst
 have g63:(G:Int)≤9223372036854775807:=by unfold maxLen at hGm;omega
 clear hold hG hcs hsz hst hGm hcz
 go_enter Tryz.func172,Tryz.ntmps172
 go_wp2_with (at_builtin;refine Lib.wpList_append_run _ rfl _ _ _ _ rfl _ _ rfl rfl _ _ (hrz _) ?_)
 all_goals (go_ret;exact ⟨G,rfl,HSt.out⟩)
theorem concat_any (H:Nat)(p1:Addr)(c1:Nat)(xs:List Int)(p2:Addr)(c2 B:Nat)(ys:List Int)(w:World)(h0:w.cell? ⟨H,0,none⟩=some (.slice (some p1) xs.length c1))(h1:w.cell? ⟨H,1,none⟩=some (.slice (some p2) ys.length c2))
  (hx:RdI w B (some p1) xs) (hy:RdI w B (some p2) ys) (hxl:1≤xs.length∧xs.length≤1000) (hyl:ys.length≤1000):
  Calls Tryz.prog 148 #[.slice (some ⟨H,0,none⟩) 2 2] w fun e w'=>∃ a c,e = .returned (.slice a (xs.length+ys.length) c)∧IntSt w w' a (xs.length+ys.length) c (xs++ys):=by
 have on:∀ {w:World} {ad:Addr} {B:Nat} {zs:List Int},RdI w B (some ad) zs→∀ W,Kept NoB w W→∀ j u,(zs.map (Value.int .i64))[j]?=some u→W.cell? (ad.add j)=some u:=by
  intro w ad B zs hr W hk j u hu
  have hj:j < zs.length:=by have:=(List.getElem?_eq_some_iff.1 hu).1;simpa using this
  obtain ⟨g,off,he,_,hc⟩:=hr j hj
  cases he
  rw [addr_add,hk.cell hc,← hu]
  simp [List.getD,hj]
 have hX:=on hx;have hY:=on hy
 obtain ⟨n,hn⟩:∃ n,n=xs.length:=⟨_,rfl⟩
 obtain ⟨m,hm⟩:∃ m,m=ys.length:=⟨_,rfl⟩
 rw [← hn] at h0 hxl ⊢
 rw [← hm] at h1 hyl ⊢
 have hC0:∀ W,Kept NoB w W→W.cell? ⟨H,0,none⟩=some (.slice (some p1) n c1):=fun W hk=>hk.cell h0
 have hC1:∀ W,Kept NoB w W→W.cell? ⟨H,1,none⟩=some (.slice (some p2) m c2):=fun W hk=>hk.cell h1
 have HC0:=Hd hC0;have HC1:=Hd hC1;have HX:=Hd hX;have HY:=Hd hY;have HN:=Hd hn;have HM:=Hd hm
 have hn1:=hxl.1
 have hn2:=hxl.2
 clear on hX hY hx hy hn hm hC0 hC1 hxl
 go_enter Tryz.func148,Tryz.ntmps148
 go_wp2_with fail
 go_loopw [11,3,5] (fun v11 v3 _ wr=>∃ i:Nat,v11 = .int .i64 (i:Int)∧i≤2∧v3 = .int .i64 ((if i=0 then 0 else if i=1 then n else n+m:Nat):Int)∧w=wr) (fun v11 _ _ _=>2 - (intOf v11).toNat)
 case atStart=>exact ⟨0,rfl,by omega,rfl,rfl⟩
 case round=>
  obtain ⟨i,rfl,hi2,rfl,rfl⟩:=hrel
  rcases (show i=0∨i=1∨i=2 by omega) with rfl | rfl | rfl
  ·have hg0:¬ ((0:Int)+(n:Int) < 0):=by omega
   have hg1:¬ ((n:Int) < 0):=by omega
   go_wp2
   go_roundw
   case rel=>exact ⟨1,rfl,by omega,by simp⟩
   case measure=>simp [intOf]
  ·have hg1:¬ ((n:Int)+(m:Int) < 0):=by omega
   have hg2:IntKind.i64.wrap ((n:Int)+(m:Int))=((n+m:Nat):Int):=by rw [IntWalk.i64_in _ (by omega)];omega
   have hg3:¬ (((n+m:Nat):Int) < 0):=by omega
   go_wp2
   go_roundw
   case rel=>exact ⟨2,rfl,by omega,by simp⟩
   case measure=>simp [intOf]
  ·obtain ⟨k,hk⟩:∃ k,k=n+m:=⟨_,rfl⟩
   rw [if_neg (by decide),if_neg (by decide),← hk]
   have hgc:=grow_nil k w (by omega)
   have HGc:=Hd hgc;have HK:=Hd hk
   clear hgc hk
   go_wp2_with fail
   with_reducible refine HGc.out.mono ?_
   rintro e w1 ⟨c,rfl,hst⟩
   obtain ⟨G,hG⟩:∃ G,G=w.heap.size:=⟨_,rfl⟩
   rw [← hG] at hst ⊢
   have HSt:=Hd hst
   clear hst hG HGc
   go_wp2_with fail
   go_loopw [27,6,8] (fun v27 v6 _ w2=>∃ (i:Nat) (a:Option Addr) (c:Nat),v27 = .int .i64 (i:Int)∧i≤2∧v6 = .slice a (if i=0 then 0 else if i=1 then n else n+m) c∧Hid (IntSt w w2 a (if i=0 then 0 else if i=1 then n else n+m) c (if i=0 then [] else if i=1 then xs else xs++ys))) (fun v27 _ _ _=>2 - (intOf v27).toNat)
   case atStart=>exact ⟨0,_,c,rfl,by omega,rfl,HSt⟩
   case round=>
    clear HSt
    obtain ⟨i,a,c,rfl,hi2,rfl,HS⟩:=hrel
    rcases (show i=0∨i=1∨i=2 by omega) with rfl | rfl | rfl
    ·have hs:=HS.out
     rw [if_pos rfl,if_pos rfl] at hs
     have x0:=HC0.out wr hs.kept
     have hx:=HX.out wr hs.kept
     have HS0:=Hd hs;have HXx:=Hd hx
     clear hs HS hx
     rw [if_pos rfl]
     go_wp2_with (at_builtin;refine wpList_intsA rfl _ _ rfl HS0.out rfl p1 n c1 xs rfl HN.out.symm HXx.out (by omega) ?_)
     intro a2 c3 w3 hs3 hk3
     have HS3:=Hd hs3
     clear hs3 hk3
     go_wp2
     go_roundw
     case rel=>exact ⟨1,a2,c3,rfl,by omega,rfl,HS3⟩
     case measure=>simp [intOf]
    ·have hs:=HS.out
     rw [if_neg (by decide),if_pos rfl,if_neg (by decide),if_pos rfl] at hs
     have x0:=HC1.out wr hs.kept
     have hx:=HY.out wr hs.kept
     have HS0:=Hd hs;have HXx:=Hd hx
     clear hs HS hx
     rw [if_neg (by decide),if_pos rfl]
     go_wp2_with (at_builtin;refine wpList_intsA rfl _ _ rfl HS0.out rfl p2 m c2 ys rfl HM.out.symm HXx.out (by omega) ?_)
     intro a2 c3 w3 hs3 hk3
     have HS3:=Hd hs3
     clear hs3 hk3
     go_wp2
     go_roundw
     case rel=>exact ⟨2,a2,c3,rfl,by omega,rfl,HS3⟩
     case measure=>simp [intOf]
    ·have hs:=HS.out
     rw [if_neg (by decide),if_neg (by decide),if_neg (by decide),if_neg (by decide)] at hs
     rw [if_neg (by decide),if_neg (by decide)]
     have HS0:=Hd hs
     clear hs HS
     go_wp2
     go_ret
     exact ⟨a,c,rfl,HS0.out⟩
theorem may_all {ls:List Int}(h:fullB ls=true∨kindA ls=1):Small 15 ls∧ls.length≤320:=by
 have:MayL ls:=by
  rcases h with h | h
  ·exact full_may h
  ·apply Classical.byContradiction
   intro hn
   have:=kindA_bad hn
   rw [this] at h
   exact absurd h (by decide)
 exact ⟨this.small,this.len⟩
theorem small_getD2 {Z:List Int}{m:Nat}(h:Small m Z)(i:Nat):0≤Z.getD i 0∧Z.getD i 0≤m:=by
 by_cases hi:i < Z.length
 ·have:Z.getD i 0=Z[i]:=by simp [List.getD,hi]
  rw [this];exact h _ (List.getElem_mem hi)
 ·have:Z.getD i 0=0:=by simp [List.getD,List.getElem?_eq_none (Nat.le_of_not_lt hi)]
  omega
theorem row_off {w:World}{e z n g c R:Nat}{xs:List Value}{T:TypeId}{ao:Option Addr}{cap:Nat}{bs:List Int}{s:Nat}(ho:w.ownsRow 0 e z (.slice (some ⟨g,0,none⟩) n c) n xs)(hw:Wtr w R ao cap bs s)(h1:96≠e)(h2:e≠5):¬ OrB (OneB R) (OwnB (.slice ao bs.length cap)) g:=by
 rcases ho.2 with ⟨hv,_⟩ | ⟨g',cc,cur,hv,_,hgg,_⟩
 ·simp at hv
 ·simp at hv
  obtain ⟨rfl,rfl⟩:=hv
  rintro (h | h)
  ·unfold OneB at h
   have hR:=hw.1
   rw [← h,hgg] at hR
   simp at hR
   exact h1 hR.2.symm
  ·exact row_ne hw.2.1 hgg h2 g h rfl
theorem head_small {lit dist:List Int}(h:headB lit dist=true):(257≤lit.length∧lit.length≤286∧1≤dist.length∧dist.length≤30)∧Small 15 lit∧Small 15 dist∧mayB lit dist=true:=by
 unfold headB at h
 obtain ⟨h1,h2⟩:=Bool.and_eq_true_iff.1 h
 have h3:=h2
 unfold mayB at h3
 obtain ⟨h4,h5⟩:=Bool.and_eq_true_iff.1 h3
 obtain ⟨_,h6⟩:=Bool.and_eq_true_iff.1 h4
 refine ⟨of_decide_eq_true h1,(may_all (.inl h6)).1,(may_all ?_).1,h2⟩
 rcases Bool.or_eq_true_iff.1 h5 with h | h
 ·exact .inl h
 ·exact .inr (of_decide_eq_true h)
def lenOfT (v:Value):Nat:=match v with | .slice _ m _=>m | _=>0
theorem trimmed_any (a:Option Addr)(c B:Nat)(zs:List Int)(least:Nat)(w:World)(hr:RdI w B a zs)(hl:least≤zs.length)(h1:1≤least)(hc:zs.length≤c)(hcl:c≤maxLen):
  Calls Tryz.prog 145 #[.slice a zs.length c,.int .i64 (least:Int)] w fun e w'=>∃ n,e = .returned (.slice a n c)∧TrimP least zs n∧Kept NoB w w':=by
 unfold maxLen at hcl
 obtain ⟨g,o,rfl,_,_⟩:=hr 0 (by omega)
 have HR:=Hd hr
 obtain ⟨N,hN⟩:∃ N,N=zs.length:=⟨_,rfl⟩
 have HN:=Hd hN
 rw [← hN] at hl hc ⊢
 clear hr hN
 have HT0:Hid (TrimW least zs N):=Hd ⟨hl,by rw [HN.out];exact Nat.le_refl _,fun i h1 h2=>by have:=HN.out;omega⟩
 go_enter Tryz.func145,Tryz.ntmps145
 go_wp2_with fail
 go_loopw [0] (fun l wr=>∃ n,l = .slice (some ⟨g,o,none⟩) n c∧n≤N∧Hid (TrimW least zs n)∧Hid (Kept NoB w wr)) (fun l _=>lenOfT l)
 case atStart=>exact ⟨N,rfl,Nat.le_refl _,HT0,Hd (Kept.refl _ _)⟩
 case round=>
  obtain ⟨n,rfl,hn,HT,HK⟩:=hrel
  by_cases hlt:least < n
  ·have hgt:(least:Int) < (n:Int):=by omega
   obtain ⟨m,hm⟩:∃ m,m+1=n:=⟨n - 1,by omega⟩
   have hw:IntKind.i64.wrap ((n:Int) - 1)=(m:Int):=by rw [IntWalk.i64_in _ (by omega)];omega
   have hmn:m < n:=by omega
   have hmc:m≤c:=by omega
   obtain ⟨g',o',e,_,hcell⟩:=(HR.out.keptNo HK.out) m (by have:=HN.out;omega)
   cases e
   obtain ⟨z,hz⟩:∃ z,z=zs.getD m 0:=⟨_,rfl⟩
   rw [← hz] at hcell
   have HZ:=Hd hz;have HM:=Hd hm
   clear hz hm
   by_cases hz0:z=0
   ·subst hz0
    go_wp2
    go_roundw
    case rel=>
     refine ⟨m,rfl,by omega,Hd ⟨by have:=HM.out;omega,by have:=HT.out.hi;omega,fun i h1 h2=>?_⟩,HK⟩
     by_cases hi:i=m
     ·subst hi;exact HZ.out.symm
     ·exact HT.out.tail i (by have:=HM.out;omega) h2
    case measure=>simp [lenOfT];omega
   ·have hzb:(z == 0)=false:=by simpa using hz0
    go_wp2
    go_ret
    exact ⟨n,rfl,⟨HT.out,.inr (by rw [show n - 1=m by have:=HM.out;omega,← HZ.out];exact hz0)⟩,HK.out⟩
  ·have hgt:¬ (least:Int) < (n:Int):=by omega
   go_wp2
   go_ret
   exact ⟨n,rfl,⟨HT.out,.inl (by have:=HT.out.lo;omega)⟩,HK.out⟩
def OwnT (w:World)(a:Option Addr)(c:Nat)(l:List Int):Prop:=∃ g N n,∃ Z:List Int,a=some ⟨g,0,none⟩∧w.ownsRow 0 3 1 (.slice (some ⟨g,0,none⟩) N c) N (Z.map (.int .i64))∧Z.length=N∧l=Z.take n
theorem OwnT.kept {S:Nat→Prop}{w w':World}{a:Option Addr}{c:Nat}{l:List Int}(h:OwnT w a c l)(hk:Kept S w w')(hs:∀ g,a=some ⟨g,0,none⟩→¬ S g):OwnT w' a c l:=by
 obtain ⟨g,N,n,Z,rfl,ho,hZ,hl⟩:=h
 exact ⟨g,N,n,Z,rfl,hk.row ho (fun k e=>by simp [Value.ownBlock] at e;subst e;exact hs _ rfl),hZ,hl⟩
theorem OwnT.rdG {w:World}{a:Option Addr}{c:Nat}{l:List Int}(h:OwnT w a c l){S:Nat→Prop}(hS:∀ g,a=some ⟨g,0,none⟩→S g):RdG w S a l:=by
 obtain ⟨g,N,n,Z,rfl,ho,hZ,rfl⟩:=h
 intro i hi
 rw [List.length_take] at hi
 have hiZ:i < Z.length:=by omega
 have hc:=ho.cellAt i (by omega)
 refine ⟨g,0,rfl,hS g rfl,?_⟩
 rw [Nat.zero_add,hc]
 simp [List.getD,List.getElem?_take,hiZ,show i < n by omega]
theorem OwnT.reads {w:World}{a:Option Addr}{c:Nat}{l:List Int}(h:OwnT w a c l):RdI w w.heap.size a l:=(h.rdG (S:=fun _=>True) (fun _ _=>trivial)).room
theorem OwnT.off {w:World}{a:Option Addr}{c R:Nat}{l:List Int}{ao:Option Addr}{cap:Nat}{bs:List Int}{s:Nat}(h:OwnT w a c l)(hw:Wtr w R ao cap bs s):∀ g,a=some ⟨g,0,none⟩→¬ OrB (OneB R) (OwnB (.slice ao bs.length cap)) g:=by
 obtain ⟨g,N,n,Z,rfl,ho,hZ,rfl⟩:=h
 intro g' e
 cases e
 exact row_off (T:=0) ho hw (by decide) (by decide)
theorem LensP.own {w w':World}{zs:List Int}{e:Ending}(h:LensP w zs e w')(h0:0 < zs.length):∃ g c,e = .returned (.tuple #[.slice (some ⟨g,0,none⟩) zs.length c,.int .i64 0])∧w'.ownsRow 0 3 1 (.slice (some ⟨g,0,none⟩) zs.length c) zs.length (zs.map (.int .i64))∧zs.length≤c∧c≤maxLen∧RdI w' w'.heap.size (some ⟨g,0,none⟩) zs∧Kept NoB w w':=by
 obtain ⟨a,c,rfl,ho,hk⟩:=h
 rcases ho.2 with ⟨_,hz⟩ | ⟨g,cc,cur,hv,_,_,hl,hm,_⟩
 ·omega
 ·simp at hv
  obtain ⟨rfl,rfl⟩:=hv
  refine ⟨g,c,rfl,ho,hl,hm,?_,hk⟩
  have hT:OwnT w' (some ⟨g,0,none⟩) c zs:=⟨g,zs.length,zs.length,zs,rfl,ho,rfl,by rw [List.take_length]⟩
  exact hT.reads
theorem bestLens_yes (la:Option Addr)(lc:Nat)(lits:List Int)(da:Option Addr)(dc:Nat)(dists:List Int)(B:Nat)(w:World)(hr1:RdI w B la lits)(hr2:RdI w B da dists)(hl1:lits.length=286)(hl2:dists.length=30)(ok1:LensOkP lits 15)(ok2:LensOkP dists 15):
  Calls Tryz.prog 123 #[.slice la 286 lc,.slice da 30 dc] w fun e w'=>∃ a1 c1 a2 c2 l1 l2,e = .returned (.tuple #[.slice a1 l1.length c1,.slice a2 l2.length c2,.int .i64 0])∧BestL 257 lits l1∧BestL 1 dists l2∧OwnT w' a1 c1 l1∧OwnT w' a2 c2 l2∧Kept NoB w w':=by
 have h1:=lens_yes la lc B lits 15 w hr1 ok1
 rw [hl1] at h1
 have HL:=Hd h1
 have HD2:Hid (∀ W,Kept NoB w W→Calls Tryz.prog 144 #[.slice da 30 dc,.int .i64 15] W fun e w'=>∃ lv,SrtP lv (leavesL 0 dists)∧LensP W (lensOf lv 30 (15:Int).toNat) e w'):=Hd fun W hk=>by
  have h2:=lens_yes da dc B dists 15 W (hr2.keptNo hk) ok2
  rw [hl2] at h2
  exact h2
 have HF1:Hid (∀ lv,SrtP lv (leavesL 0 lits)→(lensOf lv 286 15).length=286):=Hd fun lv hs=>by
  have:=(lensF lits 15 lv ok1 hs).len
  rw [hl1] at this;exact this
 have HF2:Hid (∀ lv,SrtP lv (leavesL 0 dists)→(lensOf lv 30 15).length=30):=Hd fun lv hs=>by
  have:=(lensF dists 15 lv ok2 hs).len
  rw [hl2] at this;exact this
 have HL1:=Hd hl1;have HL2:=Hd hl2
 clear h1 hr1 hr2 hl1 hl2 ok1 ok2
 go_enter Tryz.func123,Tryz.ntmps123
 go_wp2_with fail
 refine HL.out.mono ?_
 rintro e w1 ⟨lv,hs,hp⟩
 obtain ⟨Z,hZ⟩:∃ Z,Z=lensOf lv 286 15:=⟨_,rfl⟩
 have hZl:Z.length=286:=by rw [hZ];exact HF1.out lv hs
 change LensP w (lensOf lv 286 15) e w1 at hp
 rw [← hZ] at hp
 obtain ⟨g,c,rfl,ho,hc1,hc2,hrd,hk1⟩:=hp.own (by omega)
 have HZ:=Hd hZ;have HS:=Hd hs;have HO:=Hd ho;have HRd:=Hd hrd;have HK1:=Hd hk1;have HZl:=Hd hZl
 rw [hZl]
 clear hZ hs hp ho hrd hk1 hZl HL HF1
 have HL2:=Hd (HD2.out w1 HK1.out)
 clear HD2
 go_wp2_with fail
 refine HL2.out.mono ?_
 rintro e w2 ⟨lv2,hs2,hp2⟩
 obtain ⟨Z2,hZ2⟩:∃ Z,Z=lensOf lv2 30 15:=⟨_,rfl⟩
 have hZl2:Z2.length=30:=by rw [hZ2];exact HF2.out lv2 hs2
 change LensP w1 (lensOf lv2 30 15) e w2 at hp2
 rw [← hZ2] at hp2
 obtain ⟨g2,c2,rfl,ho2,hc3,hc4,hrd2,hk2⟩:=hp2.own (by omega)
 have HZ2:=Hd hZ2;have HS2:=Hd hs2;have HO2:=Hd ho2;have HRd2:=Hd hrd2;have HZl2:=Hd hZl2
 have HO1:=Hd (hk2.row HO.out (fun _ _ h=>h))
 have HK2:=Hd (HK1.out.trans hk2)
 have ht1:=trimmed_any (some ⟨g,0,none⟩) c _ Z 257 w2 (HRd.out.keptNo hk2) (by rw [HZl.out];omega) (by omega) hc1 hc2
 rw [HZl.out] at ht1
 have HT1:=Hd ht1
 have HT2:Hid (∀ W,Kept NoB w2 W→Calls Tryz.prog 145 #[.slice (some ⟨g2,0,none⟩) 30 c2,.int .i64 ((1:Nat):Int)] W fun e w'=>∃ n,e = .returned (.slice (some ⟨g2,0,none⟩) n c2)∧TrimP 1 Z2 n∧Kept NoB W w'):=Hd fun W hk=>by
  have h:=trimmed_any (some ⟨g2,0,none⟩) c2 _ Z2 1 W (HRd2.out.keptNo hk) (by rw [HZl2.out];omega) (by omega) hc3 hc4
  rw [HZl2.out] at h
  exact h
 rw [hZl2]
 clear hZ2 hs2 hp2 ho2 hrd2 hk2 hZl2 hc1 hc2 hc3 hc4 HL2 HF2 ht1 HRd HO HK1
 go_wp2_with fail
 refine HT1.out.mono ?_
 rintro e w3 ⟨n1,rfl,ht1,hk3⟩
 have HTr1:=Hd ht1
 have HK3:=Hd hk3
 have HT2:=Hd (HT2.out w3 hk3)
 clear ht1 hk3 HT1
 go_wp2_with fail
 refine HT2.out.mono ?_
 rintro e w4 ⟨n2,rfl,ht2,hk4⟩
 have HTr2:=Hd ht2
 have HK4:=Hd (HK3.out.trans hk4)
 clear ht2 hk4 HT2
 go_wp2
 go_ret3
 refine ⟨some ⟨g,0,none⟩,c,some ⟨g2,0,none⟩,c2,Z.take n1,Z2.take n2,?_,⟨lv,n1,HS.out,?_,?_⟩,⟨lv2,n2,HS2.out,?_,?_⟩,?_,?_,HK2.out.trans HK4.out⟩
 ·rw [HTr1.out.len,HTr2.out.len];rfl
 ·rw [HL1.out,← HZ.out];exact HTr1.out
 ·rw [HL1.out,← HZ.out]
 ·rw [HL2.out,← HZ2.out];exact HTr2.out
 ·rw [HL2.out,← HZ2.out]
 ·exact OwnT.kept ⟨g,Z.length,n1,Z,rfl,HO1.out,rfl,rfl⟩ HK4.out (fun _ _ h=>h)
 ·exact OwnT.kept ⟨g2,Z2.length,n2,Z2,rfl,HO2.out,rfl,rfl⟩ HK4.out (fun _ _ h=>h)
theorem spanL_one (s:Int):1≤spanL s:=by unfold spanL;split <;> (try split) <;> (try split) <;> decide
theorem runAll_many (n:Int):∀ (rs:List (Int × Int)) (l F:List Int),runAll n l rs=some F→l.length+rs.length≤F.length
 | [],l,F,h=>by rw [runAll] at h;cases h;simp
 | (s,x) :: r,l,F,h=>by
  rw [runAll] at h
  split at h
  ·have h2:=runAll_many n r _ F h
   have h3:=spanL_one s
   rw [moreL_len] at h2
   simp only [List.length_cons];omega
  ·cases h
theorem spanB_seven (s:Int):spanB s≤7:=by unfold spanB;split <;> (try split) <;> (try split) <;> decide
theorem wordsR_wd {code:List Int}(hs:Small 7 code):∀ (rs:List (Int × Int)),(∀ y∈rs,HasC code y.1)→wdN (wordsR code rs)≤14*rs.length
 | [],_=>by simp [wordsR,wdN]
 | y :: rs,h=>by
  have h1:=wordsR_wd hs rs (fun z hz=>h z (List.mem_cons_of_mem _ hz))
  obtain ⟨k,hk,hkl,_⟩:=h y (List.mem_cons_self ..)
  have hb:=hs.getD k hkl
  have hsp:=spanB_seven y.1
  rw [wordsR_cons]
  have hz:(wordZ code y.1).2≤7:=by unfold wordZ;rw [hk,Int.toNat_natCast];simp only;omega
  simp only [wdN,List.length_cons]
  omega
theorem headW_few {code lit dist:List Int}{told:Nat}{rs:List (Int × Int)}(hc:CodeW code told rs (lit++dist))(hb:headB lit dist=true):wdN (headW lit dist code told rs)≤4600:=by
 obtain ⟨⟨b1,b2,b3,b4⟩,_,_,_⟩:=head_small hb
 have h1:=runAll_many _ rs [] _ hc.runs
 rw [List.length_append] at h1
 have h2:=wordsR_wd hc.small rs hc.has
 have h3:=wordsC_wd code told
 have h4:=hc.hi
 unfold headW
 rw [wdN_append,wdN_append,h3]
 simp only [wdN]
 simp only [List.length_nil] at h1
 omega
theorem stored_yes2 (w:World)(R:Nat)(ao:Option Addr)(cap:Nat)(bs:List Int)(s:Nat)(last:Bool)(ba:Option Addr)(bc:Nat)(b:List Int)(h:Wtr w R ao cap bs s)(hs:s≤700000000000)(hr:Reads w ba b)(hb:AllB b)(hl:b.length≤65535)
  (hsep:b≠[]→∀ a,ba=some a→a.block≠R∧(Value.slice ao bs.length cap).ownBlock≠some a.block):
  Calls Tryz.prog 50 #[.pointer (some ⟨R,0,none⟩),.slice ba b.length bc,.bool last] w fun e w'=>∃ ao' cap' bs',e = .returned (.int .i64 0)∧WroteP w R (.slice ao bs.length cap) bs s (storedW last (up8 (s+3) - (s+3)) b) w' ao' cap' bs':=by
 have HT:=Hd (putType_any w R ao cap bs s 0 last h (by decide) (by omega))
 have HRd:Hid (∀ W,Kept (OrB (OneB R) (OwnB (.slice ao bs.length cap))) w W→Reads W ba b):=Hd fun W hk=>by
  by_cases hne:b=[]
  ·subst hne;exact ⟨fun _=>rfl,fun a ha i hi=>absurd hi (by simp)⟩
  ·exact hr.kept hk (fun a ha e=>by
    rcases e with e | e
    ·exact (hsep hne a ha).1 e
    ·exact (hsep hne a ha).2 e)
 have HBs:Hid (∀ j,j < b.length→∃ (g off z:Nat),ba=some ⟨g,off,none⟩∧b.getD j 0=(z:Int)∧z < 256):=Hd fun j hj=>by
  obtain ⟨g,off,hba,_,_⟩:=hr.at (by omega)
  have:=AllB.getD hb j
  exact ⟨g,off,(b.getD j 0).toNat,hba,by omega,by omega⟩
 obtain ⟨L,hL⟩:∃ L,L=b.length:=⟨_,rfl⟩
 have HL:=Hd hL
 have hLl:L≤65535:=by rw [hL];exact hl
 have hw32:IntKind.u32.wrap (L:Int)=(L:Int):=IntWalk.u32_in _ (by omega)
 obtain ⟨Z,hZ⟩:∃ Z,Z=4294967295 - L:=⟨_,rfl⟩
 have hx1:bits .xor .u32 IntKind.u32.max (L:Int)=(Z:Int):=by rw [hZ];exact not32 L (by omega)
 have hx2:bits .xor .u32 (if IntKind.u32.signed=true then -1 else IntKind.u32.max) (L:Int)=(Z:Int):=hx1
 have hZb:Z < 4294967296:=by omega
 have hZ16:Z % 2 ^ 16=65535 - L:=by omega
 have HZ16:=Hd hZ16
 rw [← hL]
 clear h hr hb hl hsep hL hZ hZ16
 go_enter Tryz.func50,Tryz.ntmps50
 go_wp2_with fail
 refine HT.out.mono ?_
 rintro e w1 ⟨a1,c1,b1,rfl,hW1⟩
 have HA:=Hd (walign_any w1 R a1 c1 b1 _ hW1.size (by simp only [wdN];omega))
 have HW1:=Hd hW1
 clear hW1 HT
 go_wp2_with fail
 refine HA.out.mono ?_
 rintro e w2 ⟨rfl,hw2,hk2⟩
 have hW2:=HW1.out.align hw2 hk2
 have hsz:=hW2.size
 have hup:up8 (s+3) - (s+3)≤7:=by unfold up8;omega
 have HP3:=put_any w2 R a1 c1 b1 _ L 16 hsz (by omega) (by decide) (by simp only [wdN,wdN_append,Nat.add_zero];unfold up8;omega)
 rw [show L % 2 ^ 16=L by omega] at HP3
 have HP3:=Hd HP3;have HW2:=Hd hW2
 clear hw2 hk2 hW2 hsz HA
 go_wp2_with fail
 refine HP3.out.mono ?_
 intro e w3 hp3
 obtain ⟨a3,c3,b3,rfl,hW3⟩:=HW2.out.put hp3
 have hsz:=hW3.size
 have HP4:=put_any w3 R a3 c3 b3 _ Z 16 hsz hZb (by decide) (by simp only [wdN,wdN_append,Nat.add_zero];unfold up8;omega)
 rw [HZ16.out] at HP4
 have HP4:=Hd HP4;have HW3:=Hd hW3
 clear hp3 hW3 hsz HP3
 go_wp2_with fail
 refine HP4.out.mono ?_
 intro e w4 hp4
 obtain ⟨a4,c4,b4,rfl,hW4⟩:=HW3.out.put hp4
 have HW4:=Hd hW4
 clear hp4 hW4 HP4
 go_wp2_with fail
 go_loopw [9,30] (fun _x i wr=>∃ (j:Nat) (ao':Option Addr) (cap':Nat) (bs':List Int),j≤L∧i = .int .i64 (j:Int)∧Hid (WroteP w R (.slice ao bs.length cap) bs s ([(lastN last,1),(0,2),(0,up8 (s+3) - (s+3)),(L,16),(65535 - L,16)]++bytesW (b.take j)) wr ao' cap' bs')) (fun _ i _=>L - (intOf i).toNat)
 case atStart=>exact ⟨0,a4,c4,b4,by omega,rfl,Hd (by simpa [bytesW,wdN] using HW4.out)⟩
 case round=>
  obtain ⟨j,ao',cap',bs',hj,rfl,HW⟩:=hrel
  by_cases hlt:(j:Int) < (L:Int)
  ·obtain ⟨g,off,z,rfl,hz,hz256⟩:=HBs.out j (by have:=HL.out;omega)
   have hc:=(HRd.out wr HW.out.2.2.1).2 _ rfl j (by have:=HL.out;omega)
   rw [hz,addr_add] at hc
   have HSn:=Hd (bytesW_snoc b j (by have:=HL.out;omega) z hz)
   have hwz:IntKind.u32.wrap (z:Int)=(z:Int):=IntWalk.u32_in _ (by omega)
   have hbw:=bytesW_wd (b.take j)
   have hbl:(b.take j).length≤65535:=by rw [List.length_take];omega
   have HP:=put_any wr R ao' cap' bs' _ z 8 HW.out.size (by omega) (by decide) (by rw [wdN_append];simp only [wdN,Nat.add_zero];omega)
   rw [show z % 2 ^ 8=z by omega] at HP
   have HP:=Hd HP
   clear hz hbw hbl
   go_wp2_with fail
   refine HP.out.mono ?_
   intro e w5 hp5
   obtain ⟨a5,c5,b5,rfl,hW5⟩:=HW.out.put hp5
   rw [List.append_assoc,← HSn.out] at hW5
   have HW5:=Hd hW5
   clear hW5 hp5 HP hc
   go_wp2
   go_roundw
   case rel=>exact ⟨j+1,a5,c5,b5,by omega,by go_num,HW5⟩
   case measure=>simp [intOf];omega
  ·obtain rfl:j=L:=by omega
   go_wp2
   go_ret
   refine ⟨rfl,ao',cap',bs',?_⟩
   have h:=HW.out
   rw [List.take_of_length_le (by rw [← HL.out];exact Nat.le_refl _)] at h
   unfold storedW
   rw [← HL.out]
   exact h


section
variable {P : Program} {ops : Array Oper} {o : Oper} {a : Act} {w : World} {K : Act → World → Prop} {Q : Exit → Act → World → Prop} {E : Prop}
theorem step_app (hg:o.guard=none)(s x:Operand)(t:TypeId)(hop:o.op=Op.call { callee:=Callee.builtin Builtin.append,args:=#[s,x],argTypes:=#[t,t] })
  (e:TypeId) (i:TypeInfo) (z:Value) (size bytes:Nat) (ht:P.underlying t=some (.slice e)) (hi:P.info? e=some i) (hz:i.zero=some z)
  (hsize:i.size=size) (hby:i.bytes=bytes) (hzs:z.cells.size=size) (hsz:0 < size)
  (v:Value) (n:Nat) (xs:List Value) (hs:a.eval s=v) (hown:w.ownsRow 0 e size v n xs)
  (ad:Addr) (m c:Nat) (news:List Value) (hx:a.eval x = .slice (some ad) m c) (hl:news.length=m*size) (hnews:∀ j u,news[j]?=some u→w.cell? (ad.add j)=some u) (h1:∀ u∈news,u.oneCell'=true)
  (h63:n+m≤maxLen) (hbytes:(n+m)*bytes≤140737488355328)
  (hK:∀ v' w',w'.ownsRow 0 e size v' (n+m) (xs++news)→w.grownBy w' v.ownBlock→(∀ k,v'.ownBlock=some k→v.ownBlock=some k∨w.heap.size≤k)→K (a.put o.dst v') w'):
  if Region.wanted o (yielded ops a.tmps)=true then Oper.wp P o a w K Q else E:=by
 have hw:Region.wanted o (yielded ops a.tmps)=true:=by simp [Region.wanted,hg]
 rw [if_pos hw]
 obtain ⟨v',w',hr,h2,h3,h4⟩:=run_app (P:=P) w e t o.type i z size bytes ht hi hz hsize hby hzs hsz v n xs hown ad m c news hl hnews h1 h63 hbytes
 unfold Oper.wp execOp
 simp only [hop,resolve,invoke,builtin,Sem.run_bind,Sem.run_pure,Result.andThen_ok,List.map_toArray,List.map_cons,List.map_nil,hs,hx,hr]
 exact hK _ _ h2 h3 h4
theorem step_app_none (hg:o.guard=none)(s x:Operand)(t:TypeId)(hop:o.op=Op.call { callee:=Callee.builtin Builtin.append,args:=#[s,x],argTypes:=#[t,t] })
  (e:TypeId) (i:TypeInfo) (size:Nat) (ht:P.underlying t=some (.slice e)) (hi:P.info? e=some i)
  (v:Value) (n:Nat) (xs:List Value) (hs:a.eval s=v) (hown:w.ownsRow 0 e size v n xs) (hx:a.eval x = .slice none 0 0)
  (hK:K (a.put o.dst v) w):
  if Region.wanted o (yielded ops a.tmps)=true then Oper.wp P o a w K Q else E:=by
 have hw:Region.wanted o (yielded ops a.tmps)=true:=by simp [Region.wanted,hg]
 rw [if_pos hw]
 have hr:=run_append_owned_none (P:=P) (w:=w) 0 t o.type e i size ht hi v n xs hown
 unfold Oper.wp execOp
 simp only [hop,resolve,invoke,builtin,Sem.run_bind,Sem.run_pure,Result.andThen_ok,List.map_toArray,List.map_cons,List.map_nil,hs,hx,hr]
 exact hK
end
structure Snk (w:World)(T:TypeId)(cs:Array Value)(R L:Nat)(ao:Option Addr)(cap:Nat)(bs:List Int)(m:Nat):Prop where
 obj:w.heap[R]?=some (.cells cs T (0,0))
 c0:cs[0]?=some (.slice ao bs.length cap)
 c1:cs[1]?=some (.int .i64 m)
 own:w.ownsRow 0 5 1 (.slice ao bs.length cap) bs.length (bs.map (.int .u8))
 fr:∀ k,(Value.slice ao bs.length cap).ownBlock=some k→L≤k
 low:L≤R
 bl:bs.length≤m
 ml:m≤9223372036854775807
 sm:bs.length≤1000000
 ne5:T≠5
 ball:AllB bs
theorem Snk.kept {S:Nat→Prop}{w w':World}{T:TypeId}{cs:Array Value}{R L:Nat}{ao:Option Addr}{cap:Nat}{bs:List Int}{m:Nat}(h:Snk w T cs R L ao cap bs m)(hk:Kept S w w')(h1:¬ S R)(h2:∀ k,(Value.slice ao bs.length cap).ownBlock=some k→¬ S k):Snk w' T cs R L ao cap bs m:=
 { h with obj:=hk.obj h.obj h1,own:=hk.row h.own h2 }
theorem Snk.keptNo {w w':World}{T:TypeId}{cs:Array Value}{R L:Nat}{ao:Option Addr}{cap:Nat}{bs:List Int}{m:Nat}(h:Snk w T cs R L ao cap bs m)(hk:Kept NoB w w'):Snk w' T cs R L ao cap bs m:=h.kept hk (fun h=>h) (fun _ _ h=>h)
theorem sleft_any (w:World){T:TypeId}{cs:Array Value}{R L:Nat}{ao:Option Addr}{cap:Nat}{bs:List Int}{m:Nat}(h:Snk w T cs R L ao cap bs m)(r:Nat)(hr:(r:Int)=(m:Int) - bs.length):
  Calls Tryz.prog 154 #[.pointer (some ⟨R,0,none⟩)] w fun e w'=>e = .returned (.int .i64 r)∧Kept NoB w w':=by
 have c0:w.cell? ⟨R,0,none⟩=some (.slice ao bs.length cap):=by rw [obj_cell h.obj 0,h.c0]
 have c1:w.cell? ⟨R,1,none⟩=some (.int .i64 m):=by rw [obj_cell h.obj 1,h.c1]
 have h1:=h.bl
 have h2:=h.ml
 have h3:=h.sm
 rw [hr]
 clear h hr
 go_enter Tryz.func154,Tryz.ntmps154
 go_wp2
 go_quiet (fail)
 go_wp2
 go_ret
 exact ⟨rfl,(Kept.refl _ _).drewN _⟩
def fill (bs:List Int)(m:Nat)(ps:List (List Int)):List Int:=(bs++ps.flatten).take m
theorem fill_nil (bs:List Int)(m:Nat)(h:bs.length≤m):fill bs m []=bs:=by simp [fill];exact List.take_of_length_le h
theorem fill_len (bs:List Int)(m:Nat)(ps:List (List Int)):(fill bs m ps).length≤m:=by unfold fill;rw [List.length_take];omega
theorem take_moreF (x p:List Int)(m:Nat):(x.take m)++p.take (m - (x.take m).length)=(x++p).take m:=by
 rw [List.take_append,List.length_take]
 by_cases h:x.length≤m
 ·rw [Nat.min_eq_right h]
 ·rw [Nat.min_eq_left (by omega),Nat.sub_self,show m - x.length=0 from by omega]
theorem fill_succ (bs:List Int)(m:Nat)(ps:List (List Int))(j:Nat)(hj:j < ps.length):
  fill bs m (ps.take (j+1))=fill bs m (ps.take j)++(ps.getD j []).take (m - (fill bs m (ps.take j)).length):=by
 unfold fill
 rw [flat_succ ps j hj,← List.append_assoc,take_moreF]
def WrR (w:World)(T:TypeId)(cs0:Array Value)(R L:Nat)(v0:Value)(bs':List Int)(m:Nat)(w':World):Prop:=
 ∃ cs ao cap,Snk w' T cs R L ao cap bs' m∧cs.size=cs0.size∧(∀ i,i≠0→cs[i]?=cs0[i]?)∧Kept (OrB (OneB R) (OwnB v0)) w w'∧(∀ k,(Value.slice ao bs'.length cap).ownBlock=some k→v0.ownBlock=some k∨w.heap.size≤k)
end Go.Proofs.YtfmjfgmbjdhogaaGreatDoor
