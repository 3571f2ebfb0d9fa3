import Derived.Test.YtfmjfgmbjdhogaaGreatDoorMb14
import Derived.Test.YtfmjfgmbjdhogaaGreatDoorRows
import Derived.BigRegion
set_option linter.unusedVariables false
set_option linter.unusedSimpArgs false
set_option maxRecDepth 20000
set_option maxHeartbeats 8000000
namespace Go.Proofs.YtfmjfgmbjdhogaaGreatDoor
open Go.RowKit
theorem order19 (w:World):Calls Tryz.prog 149 #[] w fun e w'=>e = .returned (.slice (some ⟨w.heap.size,0,none⟩) 19 19)∧RdI w' w'.heap.size (some ⟨w.heap.size,0,none⟩) ordL∧Kept NoB w w'∧w.heap.size < w'.heap.size:=by
 go_enter Tryz.func149,Tryz.ntmps149
 go_wp2
 go_ret
 exact ⟨rfl,lit_readsI _ rfl,(Kept.refl _ _).alloc _,by simp⟩
theorem ord_at:∀ i,i < 19→0≤ordL.getD i 0∧ordL.getD i 0 < 19:=by decide
theorem full_ref {ls:List Int}(h:fullB ls=true):refS ls=0:=by
 have hm:=full_may h
 unfold fullB kindA at h
 rw [if_pos hm] at h
 unfold refS
 rcases kindS_of ls with k | k | k | k | k <;> simp [k] at h ⊢
def CodeRP (bs : List Int) (p n R : Nat) (ao : Option Addr) (cap : Nat) (w : World) (e : Ending) (w' : World) : Prop :=
  Kept (OneB R) w w' ∧ (∃ q, Rdr w' R ao cap bs q ∧ (p + 3 * n ≤ 8 * bs.length → q = p + 3 * n)) ∧
  (if 8 * bs.length < p + 3 * n then e = .returned (.tuple #[.pointer none, .int .i64 2])
   else if fullB (codeT bs p n) = false then e = .returned (.tuple #[.pointer none, .int .i64 6])
   else ∃ D, e = .returned (.tuple #[.pointer (some ⟨D, 0, none⟩), .int .i64 0]) ∧ DecG (codeT bs p n) D (fun k => w.heap.size ≤ k) w')
theorem readCode_any (bs:List Int)(p n R:Nat)(ao:Option Addr)(cap:Nat)(w:World)(hr:Rdr w R ao cap bs p)(hn:n≤19):
  Calls Tryz.prog 175 #[.pointer (some ⟨R,0,none⟩),.int .i64 (n:Int)] w (CodeRP bs p n R ao cap w):=by
 obtain ⟨i0,hi,hz0,hz1,hz2⟩:=info_parts infoI
 have hlf:=left_any w R ao cap bs p hr
 have hRw:=obj_lt hr.1
 have hp8:=hr.2.2.2.1
 have hbl:=hr.2.2.1
 have HLf:=Hd hlf;have HR:=Hd hr
 obtain ⟨L8,hL8⟩:∃ L8,L8=8*bs.length:=⟨_,rfl⟩
 clear hlf hr
 go_enter Tryz.func175,Tryz.ntmps175
 go_wp2_with fail
 with_reducible refine HLf.out.mono ?_
 rintro e w1 ⟨rfl,hk1⟩
 have HR1:=Hd (HR.out.keptNo hk1);have HK1:=Hd hk1
 clear hk1 HLf
 have e1:(8:Int)*(bs.length:Int)=(L8:Int):=by omega
 rw [e1]
 by_cases hsh:L8 < p+3*n
 ·have hsh2:(L8:Int) - p < 3*n:=by omega
  have hif:8*bs.length < p+3*n:=by omega
  have HIf:=Hd hif
  clear hif hL8 e1
  go_wp2
  go_ret2
  refine ⟨HK1.out.mono (fun _ _ h=>h.elim),⟨p,HR1.out,fun h=>by have:=HIf.out;omega⟩,?_⟩
  rw [if_pos HIf.out]
  rfl
 ·have hsh2:¬ (L8:Int) - p < 3*n:=by omega
  have hif:¬ 8*bs.length < p+3*n:=by omega
  have HIf:=Hd hif;have HL8:=Hd hL8
  clear hif hL8 e1 hbl
  go_wp2_with (at_make;refine wpList_make_full _ rfl _ _ _ rfl 0 3 i0 (.int .i64 0) 1 Tryz.underlying30 hi hz0 hz1 .i64 .i64 _ _ 19 rfl rfl rfl rfl (by rw [hz2];omega) (by unfold maxLen;omega) (Nat.zero_le _) ?_)
  intro w2 hown hgrow
  obtain ⟨G,hG⟩:∃ G,G=w1.heap.size:=⟨_,rfl⟩
  have hGw:w.heap.size≤G:=by rw [hG];exact HK1.out.size
  rw [← hG] at hown ⊢
  have hk2:Kept NoB w w2:=HK1.out.grown hgrow (fun _ _ e=>by cases e)
  have hO2:w2.ownsRow 0 3 1 (.slice (some ⟨G,0,none⟩) 19 19) 19 ((codeT bs p 0).map (.int .i64)):=by
   unfold codeT;rw [List.map_replicate,← toList_madeCells_one];exact hown
  have HK2:=Hd hk2;have HO2:=Hd hO2;have HR2:=Hd (HR.out.keptNo hk2)
  clear hown hgrow hG hk2 hO2 HR1 HK1
  go_wp2_with fail
  with_reducible refine (order19 w2).mono ?_
  rintro e w3 ⟨rfl,hor,hk3,hlt3⟩
  obtain ⟨H,hH⟩:∃ H,H=w2.heap.size:=⟨_,rfl⟩
  have hHw:w.heap.size≤H:=by rw [hH];exact HK2.out.size
  have hHR:H≠R:=by have:=obj_lt HR2.out.1;omega
  have hHG:H≠G:=by have:=own_lt HO2.out G rfl;omega
  rw [← hH] at hor ⊢
  have HOr:=Hd hor;have HK3:=Hd (HK2.out.trans hk3);have HR3:=Hd (HR2.out.keptNo hk3);have HO3:=Hd (hk3.row HO2.out (fun _ _ h=>h))
  clear hor hk3 hlt3 hH HR2 HO2 HK2
  have hcw:∀ i,i < 19→w3.cell? ⟨H,i,none⟩=some (.int .i64 (ordL.getD i 0)):=fun i hi=>by
   obtain ⟨g,o,h1,h2,h3⟩:=HOr.out i hi
   cases h1
   simpa using h3
  have HCw:=Hd hcw
  clear hcw HOr
  have hn0:(0:Int)≤n:=by omega
  go_wp2_with fail
  go_loopw [21,8,9,10] (fun v21 _ _ _ wr=>∃ (i:Nat),v21 = .int .i64 (i:Int)∧i≤n∧Hid (wr.ownsRow 0 3 1 (.slice (some ⟨G,0,none⟩) 19 19) 19 ((codeT bs p i).map (.int .i64)))∧Hid (Rdr wr R ao cap bs (p+3*i))∧Hid (Kept (OneB R) w wr)∧Hid (∀ i,i < 19→wr.cell? ⟨H,i,none⟩=some (.int .i64 (ordL.getD i 0)))) (fun v21 _ _ _ _=>n - (intOf v21).toNat)
  case atStart=>exact ⟨0,rfl,by omega,HO3,HR3,Hd (HK3.out.mono (fun _ _ h=>h.elim)),HCw⟩
  case round=>
   clear HO3 HR3 HK3 HCw
   obtain ⟨i,rfl,hin,HO,HRr,HK,HC⟩:=hrel
   by_cases hlt:i < n
   ·have hlt2:(i:Int) < n:=by omega
    have hc:=HC.out i (by omega)
    obtain ⟨o1,o2⟩:=ord_at i (by omega)
    obtain ⟨k,hk⟩:∃ k:Nat,ordL.getD i 0=(k:Int):=⟨(ordL.getD i 0).toNat,by omega⟩
    rw [hk] at hc
    have hk19:k < 19:=by omega
    have hk19':(k:Int) < 19:=by omega
    have htk:=take_yes wr R ao cap bs (p+3*i) 3 HRr.out (by decide) (by have:=HIf.out;omega)
    have hct:codeT bs p (i+1)=(codeT bs p i).set k ((bitsAt bs (p+3*i) 3:Nat):Int):=by rw [codeT,hk,Int.toNat_natCast]
    have hx8:=bitsAt_lt bs (p+3*i) 3
    obtain ⟨x,hx⟩:∃ x,x=bitsAt bs (p+3*i) 3:=⟨_,rfl⟩
    rw [← hx] at htk hct hx8
    rw [show ((3:Nat):Int)=3 from rfl] at htk
    have hx8':x < 8:=hx8
    have wx:IntKind.i64.wrap (x:Int)=(x:Int):=IntWalk.i64_in _ (by omega)
    have HTk:=Hd htk;have HCt:=Hd hct
    clear htk hct hx8 hx hk o1 o2 HRr
    go_wp2_with fail
    with_reducible refine HTk.out.mono ?_
    rintro e w5 ⟨rfl,hr5,hk5⟩
    have hO5:=hk5.row HO.out (fun k e h=>by simp [Value.ownBlock] at e;unfold OneB at h;omega)
    have hGu:∃ u,w5.cell? ⟨G,k,none⟩=some u:=by
     rw [hO5.cellAt k (by omega)]
     exact ⟨_,List.getElem?_eq_getElem (by rw [List.length_map,codeT_len];omega)⟩
    obtain ⟨u,hu⟩:=hGu
    have hfz:=hO5.frozenAt k
    have hst:=(hO5.stored k (.int .i64 (x:Int))).1
    rw [← List.map_set,← HCt.out] at hst
    have hks:Kept (fun j=>j=G) w5 (w5.setCell ⟨G,k,none⟩ (.int .i64 (x:Int))):=Kept.setCell (S:=fun j=>j=G) (p:=⟨G,k,none⟩) (Kept.refl _ w5) (.inl rfl) _
    have hrr:Rdr (w5.setCell ⟨G,k,none⟩ (.int .i64 (x:Int))) R ao cap bs (p+3*(i+1)):=by
     have h:=hr5.kept hks (by omega) (fun k h e=>by have:=own_lt (HR.out.2.1) k h;omega)
     have e:p+3*i+3=p+3*(i+1):=by omega
     rw [e] at h;exact h
    have hHn:(fun j=>j=G) H→False:=fun e=>hHG e
    have hcc:∀ i,i < 19→(w5.setCell ⟨G,k,none⟩ (.int .i64 (x:Int))).cell? ⟨H,i,none⟩=some (.int .i64 (ordL.getD i 0)):=fun j hj=>by
     have h:=HC.out j hj
     have h5:=(World.cell?_of_block (hk5.block _ (World.block_lt_of_cell? wr _ h) (fun e=>by unfold OneB at e;exact hHR e))).trans h
     exact (World.cell?_of_block (hks.block _ (World.block_lt_of_cell? w5 _ h5) hHn)).trans h5
    have HR5:=Hd hrr;have HC5:=Hd hcc;have HO5:=Hd hst
    have HK5:=Hd (show Kept (OneB R) w (w5.setCell ⟨G,k,none⟩ (.int .i64 (x:Int))) from Kept.setCell (p:=⟨G,k,none⟩) (HK.out.trans hk5) (.inr hGw) _)
    clear hrr hcc hst hHn hks hr5 hk5 hO5 hc HTk HO HK HC
    go_wp2
    go_roundw
    case rel=>exact ⟨i+1,by go_num,by omega,HO5,HR5,HK5,HC5⟩
    case measure=>simp [intOf];omega
   ·have hin2:i=n:=by omega
    subst hin2
    have hlt2:¬ (i:Int) < i:=by omega
    have hrd:RdI wr wr.heap.size (some ⟨G,0,none⟩) (codeT bs p i):=own_readsI HO.out (codeT_len _ _ _)
    have hsm:=small7_15 (codeT_small bs p i)
    have hfu:=full_any (some ⟨G,0,none⟩) 19 _ (codeT bs p i) wr hrd (fun z hz=>by have:=hsm z hz;omega)
    rw [codeT_len] at hfu
    have HFu:=Hd hfu;have HRd:=Hd hrd
    clear hfu hrd hlt2
    by_cases hfb:fullB (codeT bs p i)=true
    ·have HFb:=Hd hfb
     rw [hfb] at HFu
     clear hfb
     go_wp2_with fail
     with_reducible refine HFu.out.mono ?_
     rintro e w5 ⟨rfl,hk5⟩
     have hnw:=new_calls2 (some ⟨G,0,none⟩) 19 _ (codeT bs p i) w5 (HRd.out.keptNo hk5) hsm (by rw [codeT_len];decide) (full_ref HFb.out)
     rw [codeT_len] at hnw
     have HNw:=Hd hnw;have HR5:=Hd (HRr.out.keptNo hk5);have HK5:=Hd (HK.out.trans (hk5.mono (fun _ _ h=>h.elim)))
     clear hnw hk5
     go_wp2_with fail
     with_reducible refine HNw.out.mono ?_
     rintro e w6 ⟨D,rfl,hdn,hk6⟩
     have HR6:=Hd (HR5.out.keptNo hk6);have HK6:=Hd (HK5.out.trans (hk6.mono (fun _ _ h=>h.elim)));have HDn:=Hd (hdn.toG.mono (fun k (h:w5.heap.size≤k)=>Nat.le_trans HK5.out.size h))
     clear hdn hk6
     go_wp2
     go_ret2
     refine ⟨HK6.out,⟨_,HR6.out,fun _=>rfl⟩,?_⟩
     rw [if_neg HIf.out,if_neg (by rw [HFb.out];decide)]
     exact ⟨D,rfl,HDn.out⟩
    ·have hfb2:fullB (codeT bs p i)=false:=by simpa using hfb
     have HFb:=Hd hfb2
     rw [hfb2] at HFu
     clear hfb hfb2
     go_wp2_with fail
     with_reducible refine HFu.out.mono ?_
     rintro e w5 ⟨rfl,hk5⟩
     have HR5:=Hd (HRr.out.keptNo hk5);have HK5:=Hd (HK.out.trans (hk5.mono (fun _ _ h=>h.elim)))
     clear hk5
     go_wp2
     go_ret2
     refine ⟨HK5.out,⟨_,HR5.out,fun _=>rfl⟩,?_⟩
     rw [if_neg HIf.out,if_pos HFb.out]
     rfl
inductive Md where
 | block | stored | bytes (n:Nat) | head | sym (lit dist:List Int) | fin
def fixL:List Int:=List.replicate 144 8++List.replicate 112 9++List.replicate 24 7++List.replicate 8 8
def fixD:List Int:=List.replicate 32 5
def endM (last:Bool):Md:=if last then .fin else .block
def lenB (s:Int):Nat:=if s=285 then 258 else lb (s - 257).toNat
def lenX (s:Int):Nat:=if s=285 then 0 else le4 (s - 257).toNat
def SymR (bs:List Int)(code:List Int)(p:Nat)(s f:Int)(q:Nat):Prop:=∃ T:Nat,min3 15 (8*bs.length - p)=T∧ReadS code T (bitsAt bs p T) p s f q
def ItemR (bs:List Int)(most p:Nat)(m:Md)(last:Bool)(out:List Int)(e:Int)(p':Nat)(m':Md)(last':Bool)(out':List Int):Prop:=
 match m with
 | .fin=>False
 | .block=>if 8*bs.length < p+3 then e=2
  else if bitsAt bs p 3 / 2=0 then e=0∧p'=p+3∧m' = .stored∧last'=(bitsAt bs p 3 % 2 == 1)∧out'=out
  else if bitsAt bs p 3 / 2=1 then e=0∧p'=p+3∧m' = .sym fixL fixD∧last'=(bitsAt bs p 3 % 2 == 1)∧out'=out
  else if bitsAt bs p 3 / 2=2 then e=0∧p'=p+3∧m' = .head∧last'=(bitsAt bs p 3 % 2 == 1)∧out'=out
  else e=6
 | .stored=>if 8*bs.length < up8 p+32 then e=2
  else if bitsAt bs (up8 p) 16+bitsAt bs (up8 p+16) 16≠65535 then e=6
  else e=0∧p'=up8 p+32∧m'=(if bitsAt bs (up8 p) 16=0 then endM last else .bytes (bitsAt bs (up8 p) 16))∧last'=last∧out'=out
 | .bytes n=>if 8*bs.length < p+8 then e=2
  else if most≤out.length then e=5
  else e=0∧p'=p+8∧m'=(if n≤1 then endM last else .bytes (n - 1))∧last'=last∧out'=out++[((bitsAt bs p 8:Nat):Int)]
 | .head=>∃ lit dist f q,HeadR bs p lit dist f q∧if f=0 then e=0∧p'=q∧m' = .sym lit dist∧last'=last∧out'=out else e=f
 | .sym lit dist=>∃ s f q,SymR bs lit p s f q∧
  if f≠0 then e=f
  else if s < 256 then if out.length < most then e=0∧p'=q∧m' = .sym lit dist∧last'=last∧out'=out++[s] else e=5
  else if s=256 then e=0∧p'=q∧m'=endM last∧last'=last∧out'=out
  else if 285 < s then e=3
  else if 8*bs.length < q+lenX s then e=2
  else ∃ d f2 q2,SymR bs dist (q+lenX s) d f2 q2∧
   if f2≠0 then e=f2
   else if 29 < d then e=3
   else if 8*bs.length < q2+de d.toNat then e=2
   else if out.length < db d.toNat+bitsAt bs q2 (de d.toNat) then e=4
   else if most < out.length+(lenB s+bitsAt bs q (lenX s)) then e=5
   else e=0∧p'=q2+de d.toNat∧m' = .sym lit dist∧last'=last∧out'=copyN (db d.toNat+bitsAt bs q2 (de d.toNat)) (lenB s+bitsAt bs q (lenX s)) out
inductive Steps (bs:List Int) (most:Nat):Nat→Md→Bool→List Int→Nat→Md→Bool→List Int→Prop
 | refl {p:Nat} {m:Md} {last:Bool} {out:List Int}:Steps bs most p m last out p m last out
 | step {p p1 p2:Nat} {m m1 m2:Md} {l l1 l2:Bool} {o o1 o2:List Int}:ItemR bs most p m l o 0 p1 m1 l1 o1→Steps bs most p1 m1 l1 o1 p2 m2 l2 o2→Steps bs most p m l o p2 m2 l2 o2
theorem Steps.one {bs:List Int}{most p p1:Nat}{m m1:Md}{l l1:Bool}{o o1:List Int}(h:ItemR bs most p m l o 0 p1 m1 l1 o1):Steps bs most p m l o p1 m1 l1 o1 := .step h .refl
theorem Steps.trans {bs:List Int}{most p p1 p2:Nat}{m m1 m2:Md}{l l1 l2:Bool}{o o1 o2:List Int}(h:Steps bs most p m l o p1 m1 l1 o1)(h2:Steps bs most p1 m1 l1 o1 p2 m2 l2 o2):Steps bs most p m l o p2 m2 l2 o2:=by
 induction h with
 | refl=>exact h2
 | step a _ ih=>exact .step a (ih h2)
def CodeOk (c:List Int):Prop:=c.length≤320∧Small 15 c∧refS c=0
def Md.ok:Md→Prop
 | .sym lit dist=>CodeOk lit∧CodeOk dist
 | _=>True
theorem SymR.det {bs code:List Int}{p:Nat}{s s2 f f2:Int}{q q2:Nat}(hc:CodeOk code)(h:SymR bs code p s f q)(h2:SymR bs code p s2 f2 q2):s=s2∧f=f2∧q=q2:=by
 obtain ⟨T,hT,h⟩:=h
 obtain ⟨T2,hT2,h2⟩:=h2
 rw [hT] at hT2
 cases Int.ofNat.inj hT2
 exact read_det code hc.1 hc.2.1 _ _ _ _ _ _ _ _ _ h h2
theorem ItemR.det {bs:List Int}{most p:Nat}{m:Md}{last:Bool}{out:List Int}{e e2:Int}{p1 p2:Nat}{m1 m2:Md}{l1 l2:Bool}{o1 o2:List Int}(hm:m.ok)(h:ItemR bs most p m last out e p1 m1 l1 o1)(h2:ItemR bs most p m last out e2 p2 m2 l2 o2):
  e=e2∧(e=0→p1=p2∧m1=m2∧l1=l2∧o1=o2):=by
 cases m with
 | fin=>exact h.elim
 | block=>
  unfold ItemR at h h2
  simp only at h h2
  by_cases c1:8*bs.length < p+3
  ·rw [if_pos c1] at h h2;subst h h2;exact ⟨rfl,fun h=>absurd h (by decide)⟩
  ·rw [if_neg c1] at h h2
   by_cases c2:bitsAt bs p 3 / 2=0
   ·rw [if_pos c2] at h h2;obtain ⟨rfl,rfl,rfl,rfl,rfl⟩:=h;obtain ⟨rfl,rfl,rfl,rfl,rfl⟩:=h2;exact ⟨rfl,fun _=>⟨rfl,rfl,rfl,rfl⟩⟩
   ·rw [if_neg c2] at h h2
    by_cases c3:bitsAt bs p 3 / 2=1
    ·rw [if_pos c3] at h h2;obtain ⟨rfl,rfl,rfl,rfl,rfl⟩:=h;obtain ⟨rfl,rfl,rfl,rfl,rfl⟩:=h2;exact ⟨rfl,fun _=>⟨rfl,rfl,rfl,rfl⟩⟩
    ·rw [if_neg c3] at h h2
     by_cases c4:bitsAt bs p 3 / 2=2
     ·rw [if_pos c4] at h h2;obtain ⟨rfl,rfl,rfl,rfl,rfl⟩:=h;obtain ⟨rfl,rfl,rfl,rfl,rfl⟩:=h2;exact ⟨rfl,fun _=>⟨rfl,rfl,rfl,rfl⟩⟩
     ·rw [if_neg c4] at h h2;subst h h2;exact ⟨rfl,fun h=>absurd h (by decide)⟩
 | stored=>
  unfold ItemR at h h2
  simp only at h h2
  by_cases c1:8*bs.length < up8 p+32
  ·rw [if_pos c1] at h h2;subst h h2;exact ⟨rfl,fun h=>absurd h (by decide)⟩
  ·rw [if_neg c1] at h h2
   by_cases c2:bitsAt bs (up8 p) 16+bitsAt bs (up8 p+16) 16≠65535
   ·rw [if_pos c2] at h h2;subst h h2;exact ⟨rfl,fun h=>absurd h (by decide)⟩
   ·rw [if_neg c2] at h h2;obtain ⟨rfl,rfl,rfl,rfl,rfl⟩:=h;obtain ⟨rfl,rfl,rfl,rfl,rfl⟩:=h2;exact ⟨rfl,fun _=>⟨rfl,rfl,rfl,rfl⟩⟩
 | bytes n=>
  unfold ItemR at h h2
  simp only at h h2
  by_cases c1:8*bs.length < p+8
  ·rw [if_pos c1] at h h2;subst h h2;exact ⟨rfl,fun h=>absurd h (by decide)⟩
  ·rw [if_neg c1] at h h2
   by_cases c2:most≤out.length
   ·rw [if_pos c2] at h h2;subst h h2;exact ⟨rfl,fun h=>absurd h (by decide)⟩
   ·rw [if_neg c2] at h h2;obtain ⟨rfl,rfl,rfl,rfl,rfl⟩:=h;obtain ⟨rfl,rfl,rfl,rfl,rfl⟩:=h2;exact ⟨rfl,fun _=>⟨rfl,rfl,rfl,rfl⟩⟩
 | head=>
  unfold ItemR at h h2
  simp only at h h2
  obtain ⟨li,di,f,q,hh,h⟩:=h
  obtain ⟨li2,di2,f2,q2,hh2,h2⟩:=h2
  obtain ⟨rfl,rfl,rfl,hq⟩:=hh.det hh2
  by_cases c:f=0
  ·rw [if_pos c] at h h2
   have:=hq c
   subst this
   obtain ⟨rfl,rfl,rfl,rfl,rfl⟩:=h;obtain ⟨rfl,rfl,rfl,rfl,rfl⟩:=h2;exact ⟨rfl,fun _=>⟨rfl,rfl,rfl,rfl⟩⟩
  ·rw [if_neg c] at h h2
   subst h h2
   exact ⟨rfl,fun h=>absurd h c⟩
 | sym lit dist=>
  unfold ItemR at h h2
  simp only at h h2
  obtain ⟨s,f,q,hh,h⟩:=h
  obtain ⟨s2,f2,q2,hh2,h2⟩:=h2
  obtain ⟨rfl,rfl,rfl⟩:=hh.det hm.1 hh2
  by_cases c1:f≠0
  ·rw [if_pos c1] at h h2;subst h h2;exact ⟨rfl,fun h=>absurd h c1⟩
  ·rw [if_neg c1] at h h2
   by_cases c2:s < 256
   ·rw [if_pos c2] at h h2
    by_cases c3:out.length < most
    ·rw [if_pos c3] at h h2;obtain ⟨rfl,rfl,rfl,rfl,rfl⟩:=h;obtain ⟨rfl,rfl,rfl,rfl,rfl⟩:=h2;exact ⟨rfl,fun _=>⟨rfl,rfl,rfl,rfl⟩⟩
    ·rw [if_neg c3] at h h2;subst h h2;exact ⟨rfl,fun h=>absurd h (by decide)⟩
   ·rw [if_neg c2] at h h2
    by_cases c3:s=256
    ·rw [if_pos c3] at h h2;obtain ⟨rfl,rfl,rfl,rfl,rfl⟩:=h;obtain ⟨rfl,rfl,rfl,rfl,rfl⟩:=h2;exact ⟨rfl,fun _=>⟨rfl,rfl,rfl,rfl⟩⟩
    ·rw [if_neg c3] at h h2
     by_cases c4:285 < s
     ·rw [if_pos c4] at h h2;subst h h2;exact ⟨rfl,fun h=>absurd h (by decide)⟩
     ·rw [if_neg c4] at h h2
      by_cases c5:8*bs.length < q+lenX s
      ·rw [if_pos c5] at h h2;subst h h2;exact ⟨rfl,fun h=>absurd h (by decide)⟩
      ·rw [if_neg c5] at h h2
       obtain ⟨d,g,r,hd,h⟩:=h
       obtain ⟨d2,g2,r2,hd2,h2⟩:=h2
       obtain ⟨rfl,rfl,rfl⟩:=hd.det hm.2 hd2
       by_cases c6:g≠0
       ·rw [if_pos c6] at h h2;subst h h2;exact ⟨rfl,fun h=>absurd h c6⟩
       ·rw [if_neg c6] at h h2
        by_cases c7:29 < d
        ·rw [if_pos c7] at h h2;subst h h2;exact ⟨rfl,fun h=>absurd h (by decide)⟩
        ·rw [if_neg c7] at h h2
         by_cases c8:8*bs.length < r+de d.toNat
         ·rw [if_pos c8] at h h2;subst h h2;exact ⟨rfl,fun h=>absurd h (by decide)⟩
         ·rw [if_neg c8] at h h2
          by_cases c9:out.length < db d.toNat+bitsAt bs r (de d.toNat)
          ·rw [if_pos c9] at h h2;subst h h2;exact ⟨rfl,fun h=>absurd h (by decide)⟩
          ·rw [if_neg c9] at h h2
           by_cases c10:most < out.length+(lenB s+bitsAt bs q (lenX s))
           ·rw [if_pos c10] at h h2;subst h h2;exact ⟨rfl,fun h=>absurd h (by decide)⟩
           ·rw [if_neg c10] at h h2;obtain ⟨rfl,rfl,rfl,rfl,rfl⟩:=h;obtain ⟨rfl,rfl,rfl,rfl,rfl⟩:=h2;exact ⟨rfl,fun _=>⟨rfl,rfl,rfl,rfl⟩⟩
theorem or16_eq (a:Nat)(ha:a < 4294967296):bits .or .u32 ((a:Int) / 65536) ((a:Int)*65536 % 4294967296)=((a / 65536 ||| a*65536 % 4294967296:Nat):Int):=by
 have h1:((a:Int) / 65536)=((a / 65536:Nat):Int):=(Int.natCast_ediv a 65536).symm
 have h3:((a:Int)*65536 % 4294967296)=((a*65536 % 4294967296:Nat):Int):=by rw [Int.natCast_emod,Int.natCast_mul];rfl
 rw [h1,h3,u32_or_nat _ _ (Nat.lt_of_le_of_lt (Nat.div_le_self _ _) ha) (Nat.mod_lt _ (by decide))]
theorem rb32 (v:Nat)(w:World)(hv:v < 4294967296):Calls Tryz.prog 179 #[.int .u32 v] w fun e w'=>e = .returned (.int .u32 (sw 8 16711935 v / 65536 ||| sw 8 16711935 v*65536 % 4294967296:Nat))∧w=w':=by
 have e1:bits .or .u32 (bits .and .u32 ((v:Int) / 256) 16711935) (bits .and .u32 (v:Int) 16711935*256 % 4294967296)=((sw 8 16711935 v:Nat):Int):=sw_eq 8 16711935 v hv (by decide)
 have e2:=or16_eq (sw 8 16711935 v) (sw_lt _ _ _ (by decide))
 go_enter Tryz.func179,Tryz.ntmps179
 go_wp2
 go_ret
 exact ⟨rfl,rfl⟩
theorem r32 (v:Nat)(w:World)(hv:v < 4294967296):Calls Tryz.prog 163 #[.int .u32 v] w fun e w'=>e = .returned (.int .u32 (net v:Nat))∧w=w':=by
 have e1:bits .or .u32 (bits .and .u32 ((v:Int) / 2) 1431655765) (bits .and .u32 (v:Int) 1431655765*2 % 4294967296)=((sw 1 1431655765 v:Nat):Int):=sw_eq 1 1431655765 v hv (by decide)
 have e2:bits .or .u32 (bits .and .u32 ((sw 1 1431655765 v:Nat) / 4:Int) 858993459) (bits .and .u32 ((sw 1 1431655765 v:Nat):Int) 858993459*4 % 4294967296)=((sw 2 858993459 (sw 1 1431655765 v):Nat):Int):=
  sw_eq 2 858993459 _ (sw_lt _ _ _ (by decide)) (by decide)
 have e4:bits .or .u32 (bits .and .u32 ((sw 2 858993459 (sw 1 1431655765 v):Nat) / 16:Int) 252645135) (bits .and .u32 ((sw 2 858993459 (sw 1 1431655765 v):Nat):Int) 252645135*16 % 4294967296)=
   ((sw 4 252645135 (sw 2 858993459 (sw 1 1431655765 v)):Nat):Int):=
  sw_eq 4 252645135 _ (sw_lt _ _ _ (by decide)) (by decide)
 go_enter Tryz.func163,Tryz.ntmps163
 go_wp2_with (go_at_call 179;refine (rb32 _ _ (sw_lt _ _ _ (by decide))).mono ?_;rintro e w' ⟨rfl,rfl⟩)
 go_ret
 exact ⟨rfl,rfl⟩
theorem net_div (v n:Nat)(hn:n≤32):((net v:Nat):Int) / 2 ^ (32 - n)=((revN n v:Nat):Int):=by
 rw [← net_rev v n hn];push_cast;rfl
theorem rev_any (v n:Nat)(w:World)(hv:v < 4294967296)(hn:n≤32)(h1:1≤n):Calls Tryz.prog 135 #[.int .u32 v,.int .i64 n] w fun e w'=>e = .returned (.int .u32 (revN n v:Nat))∧w=w':=by
 go_enter Tryz.func135,Tryz.ntmps135
 go_wp2_with (go_at_call 163;refine (r32 _ _ hv).mono ?_;rintro e w' ⟨rfl,rfl⟩)
 go_ret
 refine ⟨?_,rfl⟩
 rw [← net_div v n hn]
 rfl
theorem num_set_last (bs:List Int)(L:Nat)(hL:bs.length=L+1)(u:Int):num (bs.set L u)+256 ^ L*(bs.getD L 0).toNat=num bs+256 ^ L*u.toNat:=by
 have e:bs=bs.take L++[bs.getD L 0]:=by
  have h:=List.take_succ_eq_append_getElem (l:=bs) (i:=L) (by omega)
  rw [List.take_of_length_le (by omega)] at h
  have g:bs.getD L 0=bs[L]:=by simp [List.getD,hL]
  rw [g];exact h
 have hl:(bs.take L).length=L:=by rw [List.length_take];omega
 have e2:bs.set L u=bs.take L++[u]:=by
  conv=>lhs;rw [e]
  rw [List.set_append_right _ _ (by omega),hl]
  simp
 have n1:num bs=num (bs.take L)+256 ^ L*(bs.getD L 0).toNat:=by
  have:=num_append (bs.take L) [bs.getD L 0]
  rw [← e,hl] at this
  simpa [num] using this
 have n2:num (bs.set L u)=num (bs.take L)+256 ^ L*u.toNat:=by
  rw [e2,num_append,hl];simp [num]
 omega
theorem top_lt (bs:List Int)(_h:AllB bs)(L q:Nat)(hL:bs.length=L+1)(hn:num bs < 2 ^ (8*L+q)):(bs.getD L 0).toNat < 2 ^ q:=by
 have e:bs=bs.take L++[bs.getD L 0]:=by
  have h:=List.take_succ_eq_append_getElem (l:=bs) (i:=L) (by omega)
  rw [List.take_of_length_le (by omega)] at h
  have g:bs.getD L 0=bs[L]:=by simp [List.getD,hL]
  rw [g];exact h
 have hl:(bs.take L).length=L:=by rw [List.length_take];omega
 have n1:=num_append (bs.take L) [bs.getD L 0]
 rw [← e,hl,pow256] at n1
 simp only [num,Nat.mul_zero,Nat.add_zero] at n1
 rw [Nat.pow_add] at hn
 have:2 ^ (8*L)*(bs.getD L 0).toNat < 2 ^ (8*L)*2 ^ q:=by omega
 exact Nat.lt_of_mul_lt_mul_left this
def putByte (z:Int)(rest q:Nat):Int:=bits .or .u8 z (IntKind.u8.wrap (IntKind.u64.wrap ((rest:Int)*2 ^ q)))
theorem putByte_eq (z:Int)(rest q:Nat)(hz:0≤z)(hq:q < 8)(hzq:z.toNat < 2 ^ q):
  putByte z rest q=((z.toNat+rest % 2 ^ (8 - q)*2 ^ q:Nat):Int):=by
 obtain ⟨y,rfl⟩:=Int.eq_ofNat_of_zero_le hz
 simp only [Int.toNat_natCast] at hzq ⊢
 unfold putByte
 have e1:((rest:Int)*2 ^ q)=((rest*2 ^ q:Nat):Int):=by push_cast;rfl
 have hp:2 ^ q≤2 ^ 7:=pow_le_pow2 (by omega)
 have e2:IntKind.u8.wrap (IntKind.u64.wrap ((rest*2 ^ q:Nat):Int))=((rest*2 ^ q % 256:Nat):Int):=by
  rw [IntKind.wrap_u64,IntKind.wrap_u8']
  omega
 have e3:rest*2 ^ q % 256=rest % 2 ^ (8 - q)*2 ^ q:=by
  have:(256:Nat)=2 ^ (8 - q)*2 ^ q:=by rw [← Nat.pow_add];rw [show 8 - q+q=8 from by omega]
  rw [this,Nat.mul_mod_mul_right]
 rw [e1,e2,u8_or_nat y _ (by omega) (Nat.mod_lt _ (by decide)),e3,or_shift _ _ _ hzq]
theorem put_step (bs:List Int)(h:AllB bs)(L q rest left now:Nat)(hL:bs.length=L+1)(hq:q < 8)(hn:num bs < 2 ^ (8*L+q))(hr:rest < 2 ^ left)
  (hnow:now=8 - q∧8 - q≤left∨now=left∧left≤8 - q):
  AllB (bs.set L (putByte (bs.getD L 0) rest q))∧num (bs.set L (putByte (bs.getD L 0) rest q))=num bs+rest % 2 ^ now*2 ^ (8*L+q)∧
   num (bs.set L (putByte (bs.getD L 0) rest q)) < 2 ^ (8*L+q+now):=by
 have hz:=h.getD L
 have ht:=top_lt bs h L q hL hn
 have hb:=putByte_eq (bs.getD L 0) rest q hz.1 hq ht
 have hs:=num_set_last bs L hL (putByte (bs.getD L 0) rest q)
 have e:rest % 2 ^ (8 - q)=rest % 2 ^ now:=by
  rcases hnow with ⟨h1,h2⟩ | ⟨h1,h2⟩
  ·rw [h1]
  ·rw [h1,Nat.mod_eq_of_lt hr,Nat.mod_eq_of_lt (Nat.lt_of_lt_of_le hr (pow_le_pow2 h2))]
 rw [e] at hb
 generalize putByte (bs.getD L 0) rest q=u at hb hs ⊢
 generalize bs.getD L 0=z at hb hs ht hz
 have hlt:rest % 2 ^ now < 2 ^ now:=Nat.mod_lt _ (Nat.pow_pos (by decide))
 generalize rest % 2 ^ now=r at hb hlt ⊢
 have hu:u.toNat=z.toNat+r*2 ^ q:=by omega
 have hnum:num (bs.set L u)=num bs+r*2 ^ (8*L+q):=by
  rw [hu,pow256,Nat.mul_add] at hs
  have:2 ^ (8*L)*(r*2 ^ q)=r*2 ^ (8*L+q):=by rw [Nat.pow_add,← Nat.mul_assoc,Nat.mul_comm (2 ^ (8*L)) r,Nat.mul_assoc]
  omega
 have hlt2:z.toNat+r*2 ^ q < 256:=by
  have h8:2 ^ now≤2 ^ (8 - q):=pow_le_pow2 (by omega)
  have:(r+1)*2 ^ q≤2 ^ (8 - q)*2 ^ q:=Nat.mul_le_mul_right _ (by omega)
  rw [← Nat.pow_add,show 8 - q+q=8 from by omega,Nat.add_mul] at this
  omega
 refine ⟨?_,hnum,?_⟩
 ·intro b hb'
  rcases List.mem_or_eq_of_mem_set hb' with h1 | h1
  ·exact h b h1
  ·omega
 ·rw [hnum,Nat.pow_add 2 (8*L+q) now]
  have:(r+1)*2 ^ (8*L+q)≤2 ^ now*2 ^ (8*L+q):=Nat.mul_le_mul_right _ (by omega)
  rw [Nat.add_mul,Nat.mul_comm (2 ^ now)] at this
  omega
theorem put_parts (V m now:Nat):V % 2 ^ m+V / 2 ^ m % 2 ^ now*2 ^ m=V % 2 ^ (m+now):=by
 rw [Nat.pow_add,Nat.mod_mul]
 rw [Nat.mul_comm (2 ^ m)]
theorem div_lt_left (V m n:Nat)(h:V < 2 ^ n)(hm:m≤n):V / 2 ^ m < 2 ^ (n - m):=by
 rw [Nat.div_lt_iff_lt_mul (Nat.pow_pos (by decide)),← Nat.pow_add,show n - m+m=n from by omega]
 exact h
theorem num_zero_last (bs:List Int):num (bs++[0])=num bs:=by rw [num_append];simp [num]
theorem AllB.snoc {bs:List Int}(h:AllB bs)(z:Int)(hz:0≤z∧z < 256):AllB (bs++[z]):=by
 intro b hb
 rcases List.mem_append.1 hb with h1 | h1
 ·exact h b h1
 ·simp at h1;subst h1;exact hz
def PutP (w:World)(R:Nat)(v0:Value)(bs:List Int)(s x n:Nat)(e:Ending)(w':World):Prop:=
 ∃ ao' cap' bs',e = .returned (.bool true)∧Wtr w' R ao' cap' bs' (s+n)∧num bs'=num bs+x*2 ^ s∧Kept (OrB (OneB R) (OwnB v0)) w w'∧
  (∀ k,(Value.slice ao' bs'.length cap').ownBlock=some k→v0.ownBlock=some k∨w.heap.size≤k)
def PutR (w:World)(R:Nat)(v0:Value)(bs:List Int)(s V n:Nat)(rest left:Value)(wr:World)(m:Nat)(ao':Option Addr)(cap':Nat)(bs':List Int):Prop:=
 m≤n∧rest = .int .u64 (V / 2 ^ m:Nat)∧left = .int .i64 (n - m:Nat)∧Wtr wr R ao' cap' bs' (s+m)∧num bs'=num bs+V % 2 ^ m*2 ^ s∧Kept (OrB (OneB R) (OwnB v0)) w wr∧
  (∀ k,(Value.slice ao' bs'.length cap').ownBlock=some k→v0.ownBlock=some k∨w.heap.size≤k)
def PutM (w:World)(R:Nat)(v0:Value)(N T:Nat)(wx:World)(ao2:Option Addr)(cap2:Nat)(bs2:List Int):Prop:=
 wx.heap[R]?=some (.cells #[.slice ao2 bs2.length cap2,.int .i64 T] 96 (0,0))∧wx.ownsRow 0 5 1 (.slice ao2 bs2.length cap2) bs2.length (bs2.map (.int .u8))∧
  AllB bs2∧bs2.length=T / 8+1∧num bs2=N∧Kept (OrB (OneB R) (OwnB v0)) w wx∧
  (∀ k,(Value.slice ao2 bs2.length cap2).ownBlock=some k→v0.ownBlock=some k∨w.heap.size≤k)
def PutMx (w:World)(R:Nat)(v0:Value)(N T:Nat)(wx:World):Prop:=∃ ao2 cap2 bs2,PutM w R v0 N T wx ao2 cap2 bs2
theorem drew_heap (w:World):w.drew.heap=w.heap:=rfl
theorem put_round {w wc:World}{R:Nat}{v0:Value}{bs bs2:List Int}{s V n m T q L l r now g cap2:Nat}{z:Int}(hM:PutM w R v0 (num bs+V % 2 ^ m*2 ^ s) T wc (some ⟨g,0,none⟩) cap2 bs2)
  (hNlt:num bs+V % 2 ^ m*2 ^ s < 2 ^ T) (hT:T=s+m) (hq:q=T % 8) (hL:L=T / 8) (hl:l=n - m) (hm:m≤n) (hr:r=V / 2 ^ m) (hrl:r < 2 ^ l) (hnow:now=8 - q∧8 - q≤l∨now=l∧l≤8 - q)
  (hz:bs2.getD L 0=z) (hs:s≤900000000000) (hn:n≤32) (h1n:1≤now):
  PutR w R v0 bs s V n (.int .u64 ((r:Int) / 2 ^ now)) (.int .i64 ((l:Int) - now))
   ((wc.setCell ⟨g,L,none⟩ (.int .u8 (bits .or .u8 z (IntKind.u64.wrap ((r:Int)*2 ^ q) % 256)))).setCell ⟨R,1,none⟩ (.int .i64 ((T:Int)+now))).drew
   (m+now) (some ⟨g,0,none⟩) cap2 (bs2.set L (putByte z r q)):=by
 obtain ⟨h1,h2,h3,h4,h5,h6,h7⟩:=hM
 have e8:bits .or .u8 z (IntKind.u64.wrap ((r:Int)*2 ^ q) % 256)=putByte z r q:=by unfold putByte;rw [IntKind.wrap_u8']
 have eT:((T:Int)+now)=((T+now:Nat):Int):=by push_cast;rfl
 have ps:=put_step bs2 h3 L q r l now (by omega) (by omega) (by rw [h5,show 8*L+q=T from by omega];exact hNlt) hrl hnow
 rw [hz,show 8*L+q=T from by omega,h5] at ps
 have hlen:(bs2.set L (putByte z r q)).length=bs2.length:=List.length_set
 have hne:=row_ne h2 h1 (by decide) g rfl
 rw [e8,eT]
 have st:=h2.stored L (.int .u8 (putByte z r q))
 have k1:Kept (OneB g) wc (wc.setCell ⟨g,L,none⟩ (.int .u8 (putByte z r q))):=Kept.setCell (S:=OneB g) (p:=⟨g,L,none⟩) (Kept.refl _ _) (.inl rfl) _
 have o1:=k1.obj h1 (fun e=>hne e.symm)
 refine ⟨by omega,?_,?_,⟨?_,?_,ps.1,by rw [hlen];omega,?_,by omega⟩,?_,?_,?_⟩
 ·rw [hr,Nat.pow_add,← Nat.div_div_eq_div_mul];push_cast;rfl
 ·congr 1;omega
 ·rw [hlen]
  have:=obj_set o1 1 (.int .i64 (T+now:Nat))
  rw [show s+(m+now)=T+now from by omega]
  simpa [drew_heap] using this
 ·rw [hlen]
  have:=(Kept.setCell (S:=OneB R) (p:=⟨R,1,none⟩) (Kept.refl _ (wc.setCell ⟨g,L,none⟩ (.int .u8 (putByte z r q)))) (.inl rfl) (.int .i64 (T+now:Nat))).row st.1 (fun k hk e=>by
   simp [Value.ownBlock] at hk;exact hne (hk.trans e))
  rw [List.map_set]
  exact this
 ·rw [show s+(m+now)=T+now from by omega];exact ps.2.2
 ·rw [ps.2.1,← put_parts V m now,hr,hT,Nat.add_mul,Nat.pow_add,Nat.mul_assoc,Nat.mul_comm (2 ^ m) (2 ^ s)];omega
 ·refine Kept.drew (Kept.setCell (p:=⟨R,1,none⟩) (Kept.setCell (p:=⟨g,L,none⟩) h6 ?_ _) (.inl (.inl rfl)) _)
  rcases h7 g rfl with h | h
  ·exact .inl (.inr h)
  ·exact .inr h
 ·intro k hk
  exact h7 k (by simpa [Value.ownBlock] using hk)
theorem low_eq (v n:Nat)(hv:v < 4294967296)(hn:n≤32):bits .and .u64 (v:Int) (IntKind.u64.wrap (IntKind.u64.wrap (2 ^ n) - 1))=((v % 2 ^ n:Nat):Int):=by
 rw [wrap_pow n hn]
 have h1:(1:Nat)≤2 ^ n:=Nat.one_le_two_pow
 have h2:2 ^ n≤2 ^ 32:=pow_le_pow2 hn
 have hw:IntKind.u64.wrap ((2:Int) ^ n - 1)=((2 ^ n - 1:Nat):Int):=by
  rw [IntKind.wrap_u64]
  have e:((2:Int) ^ n - 1)=((2 ^ n - 1:Nat):Int):=by rw [Int.natCast_sub h1];push_cast;rfl
  rw [e]
  omega
 rw [hw,u64_and_nat _ _ (by omega) (by omega),Nat.and_two_pow_sub_one_eq_mod]
theorem put_any (w:World)(R:Nat)(ao:Option Addr)(cap:Nat)(bs:List Int)(s v n:Nat)(h:Wtr w R ao cap bs s)(hv:v < 4294967296)(hn:n≤32)(hs:s≤900000000000):
  Calls Tryz.prog 84 #[.pointer (some ⟨R,0,none⟩),.int .u32 v,.int .i64 n] w (PutP w R (.slice ao bs.length cap) bs s (v % 2 ^ n) n):=by
 obtain ⟨i0,hi,hz0,hz1,hz2⟩:=info_parts info5
 have HL:=Hd (low_eq v n hv hn)
 have HV:Hid (v % 2 ^ n < 2 ^ n):=Nat.mod_lt _ (Nat.pow_pos (by decide))
 have H:=Hd h;clear h
 go_enter Tryz.func84,Tryz.ntmps84
 go_wp2_with (go_at_call 113;refine (lowest_any _ _ (by omega) (by omega)).mono ?_;rintro e w' ⟨rfl,rfl⟩)
 rw [HL.out]
 generalize hV:v % 2 ^ n=V at HV HL ⊢
 have HVE:=Hd hV;clear hV HL
 go_loopw [7,8] (fun rest left wr=>∃ m ao' cap' bs',PutR w R (.slice ao bs.length cap) bs s V n rest left wr m ao' cap' bs') (fun _ left _=>(intOf left).toNat)
 case atStart=>
  exact ⟨0,ao,cap,bs,by omega,by simp,by simp,by simpa using H.out,by simp [Nat.mod_one],Kept.refl _ _,fun k hk => .inl hk⟩
 case round=>
  obtain ⟨m,ao',cap',bs',hm,rfl,rfl,hW,hN,hK,hO⟩:=hrel
  obtain ⟨T,hT⟩:∃ T,T=s+m:=⟨_,rfl⟩
  have hTm:T≤900000000032:=by omega
  rw [← hT] at hW
  obtain ⟨q,hq⟩:∃ q,q=T % 8:=⟨_,rfl⟩
  have hq8:q < 8:=by omega
  have hmod:(T:Int) % 8=q:=by omega
  obtain ⟨l,hl⟩:∃ l,l=n - m:=⟨_,rfl⟩
  have hr:V / 2 ^ m < 2 ^ (n - m):=div_lt_left V m n HV.out hm
  rw [← hl] at hr ⊢
  obtain ⟨r,hrr⟩:∃ r,r=V / 2 ^ m:=⟨_,rfl⟩
  rw [← hrr] at hr ⊢
  have hl32:l≤32:=by omega
  have HQ:=Hd hq;clear hq
  have HT:=Hd hT;clear hT
  have HLL:=Hd hl;clear hl
  have HRR:=Hd hrr;clear hrr
  have HR:=Hd hr;clear hr
  have HN:=Hd hN;clear hN
  have HW:=Hd hW
  have c0:wr.cell? ⟨R,0,none⟩=some (.slice ao' bs'.length cap'):=by simpa using obj_cell hW.1 0
  have c1:wr.cell? ⟨R,1,none⟩=some (.int .i64 T):=by simpa using obj_cell hW.1 1
  have f0:wr.frozen? ⟨R,0,none⟩=false:=obj_free hW.1 0
  clear hW
  by_cases hlt:0 < l
  ·go_upto_if 31 with fail
   go_cut [9] from 23 to 40 (fun s9 wx=>s9 = .int .i64 q∧PutMx w R (.slice ao bs.length cap) (num bs') T wx)
   case first=>
    by_cases hq0:q=0
    ·have ht:((T:Int) % 8 == 0)=true:=by simp;omega
     have hown:=HW.out.2.1
     have hlen:=HW.out.2.2.2.1
     have hlb:bs'.length≤112500000004:=by omega
     have HLen:=Hd hlen;clear hlen
     go_wp2_with (at_builtin;refine wpList_app _ rfl _ _ 22 rfl 5 i0 (.int .u8 0) 1 1 Tryz.underlying22 hi hz0 hz1 hz2 rfl (by decide) _ _ _ rfl (hown.alloc _) ⟨wr.heap.size,0,none⟩ 1 1 [.int .u8 0] rfl rfl ?c1 ?c2 ?c3 ?c4 ?_)
     case c1=>exact cell_one_new _ _ _
     case c2=>intro u hu;simp at hu;subst hu;rfl
     case c3=>unfold maxLen;omega
     case c4=>omega
     intro v' w1 hown' hgrow hnew
     obtain ⟨ao2,cap2,rfl⟩:=own_shape hown'
     have hob:=HW.out.1
     have hne:=row_ne hown hob (by decide)
     have hob1:w1.heap[R]?=some (.cells #[.slice ao' bs'.length cap',.int .i64 T] 96 (0,0)):=by
      rw [hgrow.block R (by have:=obj_lt hob;simp;omega) (fun e=>hne R e.symm rfl),heap_alloc_old _ _ (obj_lt hob)]
      exact hob
     have d0:w1.cell? ⟨R,0,none⟩=some (.slice ao' bs'.length cap'):=by simpa using obj_cell hob1 0
     have g0:w1.frozen? ⟨R,0,none⟩=false:=obj_free hob1 0
     have F:PutMx w R (.slice ao bs.length cap) (num bs') T (w1.setCell ⟨R,0,none⟩ (.slice ao2 (bs'.length+1) cap2)):=by
      refine ⟨ao2,cap2,bs'++[0],?_,?_,HW.out.2.2.1.snoc 0 (by decide),?_,num_zero_last _,?_,?_⟩
      ·simpa using obj_set hob1 0 (.slice ao2 (bs'.length+1) cap2)
      ·have:=(Kept.setCell (S:=OneB R) (p:=⟨R,0,none⟩) (Kept.refl _ w1) (.inl rfl) (.slice ao2 (bs'.length+1) cap2)).row hown' (fun k hk e=>row_ne hown' hob1 (by decide) k hk e)
       simpa using this
      ·have:=HLen.out;have:=HQ.out;simp;omega
      ·refine Kept.setCell (p:=⟨R,0,none⟩) ?_ (.inl (.inl rfl)) _
       refine (hK.alloc _).grown hgrow ?_
       intro k hk e
       rcases hO k e with h1 | h1
       ·exact .inr h1
       ·omega
      ·intro k hk
       have hk2:(Value.slice ao2 (bs'.length+1) cap2).ownBlock=some k:=by
        cases ao2 with
        | none=>simp [Value.ownBlock] at hk
        | some a=>simpa [Value.ownBlock] using hk
       rcases hnew k hk2 with h1 | h1
       ·exact hO k h1
       ·have:=hK.size;exact .inr (by omega)
     have HF:=Hd F;clear F
     clear hown' hgrow hnew hob1 hob hne
     go_wp2
     go_meet
     exact ⟨by go_num,HF.out⟩
    ·have ht:((T:Int) % 8 == 0)=false:=by simp;omega
     go_wp2
     go_meet
     obtain ⟨h1,h2,h3,h4,h5,h6⟩:=HW.out
     exact ⟨by go_num,ao',cap',bs',h1,h2,h3,by have:=HQ.out;omega,rfl,hK,hO⟩
   case rest=>
    obtain ⟨rfl,ao2,cap2,bs2,hM⟩:=hcut
    obtain ⟨h1,h2,h3,h4,h5,h6,h7⟩:=hM
    obtain ⟨g,rfl⟩:∃ g,ao2=some ⟨g,0,none⟩:=by
     rcases h2.2 with ⟨_,hz⟩ | ⟨g,c,cur,hv,_⟩
     ·omega
     ·simp at hv;exact ⟨g,hv.1⟩
    obtain ⟨L,hL⟩:∃ L,L=T / 8:=⟨_,rfl⟩
    have hne:=row_ne h2 h1 (by decide) g rfl
    have hcellz:wc.cell? ⟨g,L,none⟩=some (.int .u8 (bs2.getD L 0)):=by
     rw [h2.cellAt L (by omega)];simp [List.getD,show L < bs2.length from by omega]
    have hfz:wc.frozen? ⟨g,L,none⟩=false:=h2.frozenAt L
    have hzb:=AllB.getD h3 L
    have d0:wc.cell? ⟨R,0,none⟩=some (.slice (some ⟨g,0,none⟩) bs2.length cap2):=by simpa using obj_cell h1 0
    have d1:wc.cell? ⟨R,1,none⟩=some (.int .i64 T):=by simpa using obj_cell h1 1
    have g1:wc.frozen? ⟨R,1,none⟩=false:=obj_free h1 1
    have hlen:bs2.length=L+1:=by omega
    have HM:Hid (PutM w R (.slice ao bs.length cap) (num bs') T wc (some ⟨g,0,none⟩) cap2 bs2):=⟨h1,h2,h3,h4,h5,h6,h7⟩
    rw [hlen] at d0
    have HLL2:=Hd hL;clear hL
    have HLen:=Hd hlen;clear hlen
    generalize hz:bs2.getD L 0=z at hcellz hzb
    have HZ:=Hd hz;clear hz
    have hLb:L≤112500000004:=by have:=HLL2.out;omega
    clear h1 h2 h3 h4 h5 h6 h7
    obtain ⟨now,hnow⟩:∃ now,now=8 - q∧8 - q≤l∨now=l∧l≤8 - q:=by
     by_cases hmn:l < 8 - q
     ·exact ⟨l,.inr ⟨rfl,by omega⟩⟩
     ·exact ⟨8 - q,.inl ⟨rfl,by omega⟩⟩
    have hnl:1≤now∧now≤l∧now≤8:=by omega
    have HNow:=Hd hnow;clear hnow
    go_upto_region 9 with fail
    go_cut [10] from 41 to 44 (fun s wx=>s = .int .i64 now∧wx=wc)
    case first=>
     by_cases hmn:l < 8 - q
     ·have hmn':(l:Int) < 8 - (q:Int):=by omega
      go_wp2
      go_meet
      exact ⟨by have:=HNow.out;go_num,rfl⟩
     ·have hmn':¬ ((l:Int) < 8 - (q:Int)):=by omega
      go_wp2
      go_meet
      exact ⟨by have:=HNow.out;go_num,rfl⟩
    case rest=>
     obtain ⟨rfl,hwx⟩:=hcut
     subst hwx
     go_wp2
     go_region
     all_goals go_wp2
     go_roundw
     case rel=>
      have hWn:=HW.out.2.2.2.2.1
      rw [HN.out] at hWn
      have hM2:=HM.out
      rw [HN.out] at hM2
      exact ⟨m+now,_,_,_,put_round hM2 hWn HT.out HQ.out HLL2.out HLL.out hm HRR.out HR.out HNow.out HZ.out hs hn hnl.1⟩
     case measure=>simp [intOf];omega
  ·have hl0:l=0:=by omega
   go_wp2
   go_ret
   refine ⟨ao',cap',bs',rfl,?_,?_,hK,hO⟩
   ·have:=HW.out
    rw [HT.out,show s+m=s+n from by have:=HLL.out;omega] at this
    exact this
   ·rw [HN.out,show m=n from by have:=HLL.out;omega,Nat.mod_eq_of_lt HV.out,HVE.out]
def putsN:List (Nat × Nat)→Nat
 | []=>0
 | (x,n) :: r=>x+putsN r*2 ^ n
def wdN:List (Nat × Nat)→Nat
 | []=>0
 | (_,n) :: r=>n+wdN r
theorem wdN_append:∀ a b,wdN (a++b)=wdN a+wdN b
 | [],b=>by simp [wdN]
 | (x,n) :: r,b=>by rw [List.cons_append,wdN,wdN,wdN_append r b];omega
theorem putsN_append:∀ a b,putsN (a++b)=putsN a+putsN b*2 ^ wdN a
 | [],b=>by simp [putsN,wdN]
 | (x,n) :: r,b=>by
  rw [List.cons_append,putsN,putsN,wdN,putsN_append r b,Nat.add_mul,Nat.pow_add,Nat.add_assoc]
  congr 2
  rw [Nat.mul_assoc,Nat.mul_comm (2 ^ wdN r) (2 ^ n)]
theorem putsN_drop:∀ (a:List (Nat × Nat)) (k:Nat),(∀ y∈a,y.1 < 2 ^ y.2)→putsN a / 2 ^ wdN (a.take k)=putsN (a.drop k)
 | a,0,_=>by simp [wdN]
 | [],k+1,_=>by simp [putsN,wdN]
 | (x,n) :: r,k+1,h=>by
  have h1:x < 2 ^ n:=h (x,n) (List.mem_cons_self ..)
  rw [List.take_succ_cons,List.drop_succ_cons,wdN,putsN,Nat.pow_add,← Nat.div_div_eq_div_mul,Nat.add_mul_div_right _ _ (Nat.two_pow_pos n),Nat.div_eq_of_lt h1,Nat.zero_add]
  exact putsN_drop r k (fun y hy=>h y (List.mem_cons_of_mem _ hy))
def wordZ (ls:List Int)(z:Int):Nat × Nat:=(revN (ls.getD z.toNat 0).toNat (codeAt ls z.toNat).toNat,(ls.getD z.toNat 0).toNat)
theorem wordZ_lt (ls:List Int)(z:Int):(wordZ ls z).1 < 2 ^ (wordZ ls z).2:=revN_lt _ _
def HasC (ls:List Int)(z:Int):Prop:=∃ k:Nat,z=(k:Int)∧k < ls.length∧0 < ls.getD k 0
theorem code_calls (w:World)(R:Nat)(ao:Option Addr)(cap:Nat)(bs:List Int)(s v n:Nat)(h:Wtr w R ao cap bs s)(hv:v < 4294967296)(h1:1≤n)(hn:n≤32)(hs:s≤900000000000):
  Calls Tryz.prog 101 #[.pointer (some ⟨R,0,none⟩),.int .u32 v,.int .i64 n] w (PutP w R (.slice ao bs.length cap) bs s (revN n v) n):=by
 have H:=Hd h;clear h
 have hlt:=revN_lt n v
 have hle:=Nat.pow_le_pow_right (n:=2) (by decide) hn
 have h32:(2:Nat) ^ 32=4294967296:=by decide
 have HP:=Hd (put_any w R ao cap bs s (revN n v) n H.out (by omega) hn hs)
 rw [Nat.mod_eq_of_lt hlt] at HP
 have HRv:=Hd (rev_any v n w hv hn h1)
 clear hlt hle h32
 go_enter Tryz.func101,Tryz.ntmps101
 go_wp2_with fail
 refine HRv.out.mono ?_
 rintro e w1 ⟨rfl,rfl⟩
 go_wp2_with fail
 refine HP.out.mono ?_
 rintro e w2 ⟨ao',cap',bs',rfl,hp⟩
 have HP2:=Hd hp;clear hp
 go_wp2
 go_ret
 exact ⟨ao',cap',bs',rfl,HP2.out⟩
theorem Kept.transO {S T:Nat→Prop}{a b c:World}(h:Kept S a b)(k:Kept T b c)(hs:∀ i,i < a.heap.size→T i→S i):Kept S a c:=
 ⟨k.os.trans h.os,k.tape.trans h.tape,k.output.trans h.output,Nat.le_trans h.size k.size,fun i hi hn=>(k.block i (Nat.lt_of_lt_of_le hi h.size) (fun t=>hn (hs i hi t))).trans (h.block i hi hn)⟩
def WroteP (w:World)(R:Nat)(v0:Value)(bs:List Int)(s:Nat)(ps:List (Nat × Nat))(w':World)(ao':Option Addr)(cap':Nat)(bs':List Int):Prop:=
 Wtr w' R ao' cap' bs' (s+wdN ps)∧num bs'=num bs+putsN ps*2 ^ s∧Kept (OrB (OneB R) (OwnB v0)) w w'∧(∀ k,(Value.slice ao' bs'.length cap').ownBlock=some k→v0.ownBlock=some k∨w.heap.size≤k)
end Go.Proofs.YtfmjfgmbjdhogaaGreatDoor
