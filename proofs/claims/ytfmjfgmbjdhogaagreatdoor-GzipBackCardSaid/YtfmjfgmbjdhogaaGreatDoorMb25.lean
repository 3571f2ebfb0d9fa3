import Derived.Test.YtfmjfgmbjdhogaaGreatDoorMb24
import Derived.BigQuiet
set_option linter.unusedVariables false
set_option linter.unusedSimpArgs false
set_option maxRecDepth 20000
set_option maxHeartbeats 8000000
namespace Go.Proofs.YtfmjfgmbjdhogaaGreatDoor
open Go.RowKit
theorem Inf0.grow {lo:Nat}{w w1 w2:World}{D:Nat}{v:IV}{m:Md}{out bs b:List Int}{S:Nat→Prop}{ra:Option Addr}{rc:Nat}(h:Inf0 lo w D v m out bs S)(hlo:lo≤w.heap.size)(hk1:Kept (OwnB v.rs) w w1)
  (hown:w1.ownsRow 0 5 1 (.slice ra (bs++b).length rc) (bs++b).length ((bs++b).map (.int .u8))) (hf:∀ k,(Value.slice ra (bs++b).length rc).ownBlock=some k→v.rs.ownBlock=some k∨w.heap.size≤k) (hb:AllB b)
  (hw2:w2=w1.setCell ⟨D,3,none⟩ (.slice ra (bs++b).length rc)) (hdec:∃ S0:Nat→Prop,(∀ k,S0 k→S k∧v.rs.ownBlock≠some k)∧ModeOk w S0 v m∧FixOk w S0 v):
  ∃ S',Inf0 lo w2 D { v with rs := .slice ra (bs++b).length rc } m out (bs++b) S'∧Kept (LoB lo) w w2:=by
 obtain ⟨S0,hS0,hm0,hf0⟩:=hdec
 have hD:=obj_lt h.obj
 have hrD:∀ k,v.rs.ownBlock=some k→k≠D:=fun k hk=>(h.s k (h.sR k hk)).2.2.1
 have ho1:=h.obj.kept hk1 (fun e=>hrD D e rfl)
 obtain ⟨wnd,hw,hx,hz⟩:=h.win
 have hskl:=own_lt h.sink.own
 have hwnl:=own_lt hw.own
 have hrl:=own_lt h.rest.own
 have hk2:Kept (OneB D) w1 w2:=by rw [hw2];exact Kept.setCell (S:=OneB D) (p:=⟨D,3,none⟩) (Kept.refl _ w1) (.inl rfl) _
 have hk:Kept (fun k=>v.rs.ownBlock=some k∨k=D) w w2:=(hk1.mono (fun _ _ e => .inl e)).trans (hk2.mono (fun _ _ e => .inr e))
 have hown2:w2.ownsRow 0 5 1 (.slice ra (bs++b).length rc) (bs++b).length ((bs++b).map (.int .u8)):=hk2.row hown (fun k e1 e2=>row_ne hown ho1 (by decide) k e1 e2)
 have hol:=own_lt hown2
 refine ⟨fun k=>S0 k∨(Value.slice ra (bs++b).length rc).ownBlock=some k,⟨?_,h.low,?_,⟨hown2,?_⟩,⟨wnd,?_,hx,hz⟩,h.sep,?_,fun k e => .inr e,h.nx,h.er,h.fit,h.big,h.all,?_,?_,?_⟩,?_⟩
 ·rw [hw2];exact ho1.setRs _
 ·exact h.sink.kept hk (fun k e1 e2=>by
   rcases e2 with e2 | e2
   ·exact (h.s k (h.sR k e2)).2.2.2.1 e1
   ·exact row_ne h.sink.own h.obj (by decide) k e1 e2)
 ·intro k e
  rcases hf k e with e | e
  ·exact h.rest.fresh k e
  ·omega
 ·exact hw.kept hk (fun k e1 e2=>by
   rcases e2 with e2 | e2
   ·exact (h.s k (h.sR k e2)).2.2.2.2 e1
   ·exact row_ne hw.own h.obj (by decide) k e1 e2)
 ·intro k e
  have hz:=hk.size
  rcases e with e | e
  ·obtain ⟨a,b,c,d⟩:=h.s k (hS0 k e).1
   exact ⟨a,by omega,c,d⟩
  ·rcases hf k e with e2 | e2
   ·obtain ⟨a,b,c,d⟩:=h.s k (h.sR k e2)
    exact ⟨a,by omega,c,d⟩
   ·exact ⟨by omega,hol k e,by omega,fun e3=>by have:=hskl k e3;omega,fun e3=>by have:=hwnl k e3;omega⟩
 ·intro x hx
  rcases List.mem_append.1 hx with hx | hx
  ·exact h.allr x hx
  ·exact hb x hx
 ·exact (hm0.kept hk (fun k hk e=>e.elim (hS0 k hk).2 (h.s k (hS0 k hk).1).2.2.1) rfl rfl rfl).more (fun _ e => .inl e)
 ·exact (hf0.kept hk (fun k hk e=>e.elim (hS0 k hk).2 (h.s k (hS0 k hk).1).2.2.1) rfl rfl).more (fun _ e => .inl e)
 ·refine hk.mono (fun k _ e=>?_)
  rcases e with e | e
  ·exact (h.s k (h.sR k e)).1
  ·exact e ▸ h.low
theorem wpList_app_none {P:Program}{w:World}{ops:Array Oper}{rest:List Oper}{o:Oper}{act:Act}{Q:Exit→Act→World→Prop}(hgd:o.guard=none)(s x:Operand)(t:TypeId)
  (ho:o.op = .call { callee := .builtin .append,args:=#[s,x],argTypes:=#[t,t] }) (e:TypeId) (i:TypeInfo) (size:Nat) (ht:P.underlying t=some (.slice e)) (hi:P.info? e=some i)
  (v:Value) (n:Nat) (xs:List Value) (hs:act.eval s=v) (hown:w.ownsRow 0 e size v n xs) (hx:act.eval x = .slice none 0 0)
  (h:wpList P ops Q rest (act.put o.dst v) w):wpList P ops Q (o :: rest) act w:=by
 refine wpList_plain hgd fun _ hK=>?_
 have hr:=run_append_owned_none (P:=P) (w:=w) 0 t o.type e i size ht hi v n xs hown
 unfold Oper.wp execOp
 simp only [ho,resolve,invoke,builtin,Sem.run_bind,Sem.run_pure,Result.andThen_ok,List.map_toArray,List.map_cons,List.map_nil,hs,hx,hr]
 exact hK _ _ h
/-- A new Inflater is fed all bytes. -/
theorem feed_new {w:World}{lo D M:Nat}{b:List Int}(h:Inf0 lo w D (iv0 M) .block [] [] (fun _=>False))(hlo:lo≤w.heap.size)(H:Nat)(ba:Option Addr)(bc:Nat)(hc:w.cell? ⟨H,0,none⟩=some (.slice ba b.length bc))(hHD:H≠D)(hr:Reads w ba b)(hba:ba=none→bc=0)(hbc:b.length≤bc)(hb:AllB b)(hbl:b.length≤1000000)
  (hB:∀ p m' l' o',Steps b M 0 .block false [] p m' l' o'→o'.length≤900000):
  Calls Tryz.prog 30 #[.pointer (some ⟨D,0,none⟩),.slice (some ⟨H,0,none⟩) 1 1] w fun e w'=>e = .returned (.tuple #[])∧ItemsW lo w D (iv0 M) .block [] b 0 0 w':=by
 obtain ⟨i0,hi,hz0,hz1,hz2⟩:=info_parts info5
 have HOv:=over_any w D _ h.obj
 have hdc:decide ((iv0 M).nx=5∨(iv0 M).er≠0)=false:=rfl
 rw [hdc] at HOv
 have HOv:=Hd HOv
 have H0:=Hd h;have HR:=Hd hr;have HBa:=Hd hba;have HB:=Hd hB;have HAb:=Hd hb
 clear h hr hba hB hdc hb
 go_enter Tryz.func30,Tryz.ntmps30
 go_wp2_with fail
 go_loopw [5,8] (fun _u i wr=>(i = .int .i64 0∧wr=w)∨(i = .int .i64 1∧Hid (ItemsW lo w D (iv0 M) .block [] b 0 0 wr))) (fun _ i _=>(2 - intOf i).toNat)
 case atStart=>exact .inl ⟨rfl,rfl⟩
 case round=>
  rcases hrel with ⟨rfl,rfl⟩ | ⟨rfl,HI⟩
  ·go_wp2_with fail
   refine HOv.out.mono ?_
   rintro e w1 ⟨rfl,hk1⟩
   have hD1:=H0.out.obj.kept hk1 (fun e=>e)
   have c3:=hD1.c3
   have f3:=hD1.free 3
   have HK1:=Hd hk1
   have c3:w1.cell? ⟨D,3,none⟩=some (.slice none 0 0):=c3
   clear hk1 hD1
   have hfin:∀ (w2:World) (a2:Option Addr) (c2:Nat),Kept NoB w1 w2→w2.ownsRow 0 5 1 (.slice a2 b.length c2) b.length (b.map (.int .u8))→(∀ k,(Value.slice a2 b.length c2).ownBlock=some k→w1.heap.size≤k)→
     ∃ S',Inf0 lo (w2.setCell ⟨D,3,none⟩ (.slice a2 b.length c2)) D { (iv0 M) with rs := .slice a2 b.length c2 } .block [] b S'∧Kept (LoB lo) wr (w2.setCell ⟨D,3,none⟩ (.slice a2 b.length c2)):=by
    intro w2 a2 c2 hk2 ho2 hf2
    have:=H0.out.grow (b:=b) (w1:=w2) (ra:=a2) (rc:=c2) hlo ((HK1.out.trans hk2).mono (fun _ _ e=>e.elim)) ho2 (fun k hk => .inr (by have:=hf2 k hk;have:=HK1.out.size;omega)) HAb.out rfl ⟨fun _=>False,fun _ e=>e.elim,trivial,.inl rfl⟩
    exact this
   have HF:=Hd hfin
   have hrun:∀ (w2:World) (a2:Option Addr) (c2:Nat),Kept NoB w1 w2→w2.ownsRow 0 5 1 (.slice a2 b.length c2) b.length (b.map (.int .u8))→(∀ k,(Value.slice a2 b.length c2).ownBlock=some k→w1.heap.size≤k)→
     Calls Tryz.prog 57 #[.pointer (some ⟨D,0,none⟩)] (w2.setCell ⟨D,3,none⟩ (.slice a2 b.length c2)) fun e w'=>e = .returned (.tuple #[])∧ItemsW lo wr D (iv0 M) .block [] b 0 0 w':=by
    intro w2 a2 c2 h1 h2 h3
    obtain ⟨S',hI,hk⟩:=hfin w2 a2 c2 h1 h2 h3
    refine (readItems_any hI (by have:=hk.size;omega) hbl 0 0 rfl (by decide) rfl (by decide) (Nat.zero_le _) trivial (by intro n e;cases e) HB.out).mono ?_
    rintro e w' ⟨he,hkw,hrest⟩
    exact ⟨he,hk.trans hkw,hrest⟩
   have HRun:=Hd hrun
   clear hfin hrun
   cases ba with
   | none=>
    obtain rfl:b=[]:=HR.out.1 rfl
    have hbc0:bc=0:=HBa.out rfl
    subst hbc0
    have HRn:=Hd (HRun.out w1 none 0 (Kept.refl _ _) (World.ownsRow_nil _ _ _ _) (fun k hk=>by simp [Value.ownBlock] at hk))
    simp only [List.length_nil] at HRn
    go_wp2_with (at_builtin;refine wpList_app_none rfl _ _ 22 rfl 5 i0 1 Tryz.underlying22 hi (.slice none 0 0) 0 [] rfl (World.ownsRow_nil _ _ _ _) rfl ?_)
    go_wp2_with fail
    refine HRn.out.mono ?_
    rintro e w3 ⟨rfl,hI⟩
    have HI:=Hd hI
    clear hI HRn
    go_wp2
    go_roundw
    case rel=>exact .inr ⟨by go_num,HI⟩
    case measure=>simp [intOf]
   | some ad=>
    have HNw:=Hd (reads_news (HR.out.keptNo HK1.out))
    go_wp2_with (at_builtin;refine wpList_app _ rfl _ _ 22 rfl 5 i0 (.int .u8 0) 1 1 Tryz.underlying22 hi hz0 hz1 hz2 rfl (by decide) (.slice none 0 0) 0 [] rfl (World.ownsRow_nil _ _ _ _) ad b.length bc (b.map (.int .u8)) rfl (by rw [List.length_map];omega) HNw.out ?d2 ?d3 ?d4 ?_)
    case d2=>exact news_one b
    case d3=>unfold maxLen;omega
    case d4=>omega
    intro v' w2 hown' hgrow hnew
    obtain ⟨ao',cap',rfl⟩:=own_shape hown'
    have hk2:Kept NoB w1 w2:=(Kept.refl _ _).grown hgrow (fun k _ e=>by simp [Value.ownBlock] at e)
    have HRn:=Hd (HRun.out w2 ao' cap' hk2 hown' (fun k hk=>by
     rcases hnew k hk with e | e
     ·simp [Value.ownBlock] at e
     ·exact e))
    have c3':w2.cell? ⟨D,3,none⟩=some (.slice none 0 0):=hk2.cell c3
    have f3':=(H0.out.obj.kept (HK1.out.trans hk2) (fun e=>e)).free 3
    clear hown' hgrow hnew hk2
    go_wp2_with fail
    refine HRn.out.mono ?_
    rintro e w3 ⟨rfl,hI⟩
    have HI:=Hd hI
    clear hI HRn
    go_wp2
    go_roundw
    case rel=>exact .inr ⟨by go_num,HI⟩
    case measure=>simp [intOf]
  ·go_wp2
   refine bodyPost_end (results_none rfl _ _ _) rfl ?_
   exact ⟨rfl,HI.out⟩
theorem ItemR.fit {bs:List Int}{most p:Nat}{m:Md}{last:Bool}{out:List Int}{p1:Nat}{m1:Md}{l1:Bool}{o1:List Int}(h:ItemR bs most p m last out 0 p1 m1 l1 o1):out.length≤o1.length∧(out.length≤most→o1.length≤most):=by
 cases m with
 | fin=>exact h.elim
 | block=>
  unfold ItemR at h
  simp only at h
  split at h
  ·exact absurd h (by decide)
  ·split at h
   ·obtain ⟨_,_,_,_,rfl⟩:=h;exact ⟨Nat.le_refl _,fun e=>e⟩
   ·split at h
    ·obtain ⟨_,_,_,_,rfl⟩:=h;exact ⟨Nat.le_refl _,fun e=>e⟩
    ·split at h
     ·obtain ⟨_,_,_,_,rfl⟩:=h;exact ⟨Nat.le_refl _,fun e=>e⟩
     ·exact absurd h (by decide)
 | stored=>
  unfold ItemR at h
  simp only at h
  split at h
  ·exact absurd h (by decide)
  ·split at h
   ·exact absurd h (by decide)
   ·obtain ⟨_,_,_,_,rfl⟩:=h;exact ⟨Nat.le_refl _,fun e=>e⟩
 | bytes n=>
  unfold ItemR at h
  simp only at h
  split at h
  ·exact absurd h (by decide)
  ·split at h
   ·exact absurd h (by decide)
   ·obtain ⟨_,_,_,_,rfl⟩:=h
    rw [List.length_append,List.length_singleton]
    exact ⟨by omega,fun e=>by omega⟩
 | head=>
  unfold ItemR at h
  simp only at h
  obtain ⟨lit,dist,f,q,hh,h⟩:=h
  split at h
  ·obtain ⟨_,_,_,_,rfl⟩:=h;exact ⟨Nat.le_refl _,fun e=>e⟩
  ·rename_i hf
   exact absurd h.symm hf
 | sym lit dist=>
  unfold ItemR at h
  simp only at h
  obtain ⟨s,f,q,hh,h⟩:=h
  split at h
  ·rename_i hf
   exact absurd h.symm hf
  ·split at h
   ·split at h
    ·obtain ⟨_,_,_,_,rfl⟩:=h
     rw [List.length_append,List.length_singleton]
     exact ⟨by omega,fun e=>by omega⟩
    ·exact absurd h (by decide)
   ·split at h
    ·obtain ⟨_,_,_,_,rfl⟩:=h;exact ⟨Nat.le_refl _,fun e=>e⟩
    ·split at h
     ·exact absurd h (by decide)
     ·split at h
      ·exact absurd h (by decide)
      ·obtain ⟨d,g,r,hd,h⟩:=h
       split at h
       ·rename_i hg
        exact absurd h.symm hg
       ·split at h
        ·exact absurd h (by decide)
        ·split at h
         ·exact absurd h (by decide)
         ·split at h
          ·exact absurd h (by decide)
          ·split at h
           ·exact absurd h (by decide)
           ·obtain ⟨_,_,_,_,rfl⟩:=h
            rw [copyN_len]
            exact ⟨by omega,fun e=>by omega⟩
theorem Steps.fit {bs:List Int}{most p p1:Nat}{m m1:Md}{l l1:Bool}{o o1:List Int}(h:Steps bs most p m l o p1 m1 l1 o1):o.length≤o1.length∧(o.length≤most→o1.length≤most):=by
 induction h with
 | refl=>exact ⟨Nat.le_refl _,fun e=>e⟩
 | step a _ ih=>have b:=a.fit;exact ⟨by omega,fun e=>ih.2 (b.2 e)⟩
theorem Steps.ahead {bs:List Int}{most p p1 p2:Nat}{m m1 m2:Md}{l l1 l2:Bool}{o o1 o2:List Int}(h:Steps bs most p m l o p1 m1 l1 o1)(hm:m.ok)(h2:Steps bs most p m l o p2 m2 l2 o2)(hs2:Stuck bs most p2 m2 l2 o2):Steps bs most p1 m1 l1 o1 p2 m2 l2 o2:=by
 induction h with
 | refl=>exact h2
 | step a _ ih=>
  cases h2 with
  | refl=>exact (hs2.no hm a).elim
  | step b hb=>
   obtain ⟨_,e⟩:=ItemR.det hm a b
   obtain ⟨rfl,rfl,rfl,rfl⟩:=e rfl
   exact ih (a.next hm).1 hb
theorem Kept.lowNo {w w':World}(h:Kept (LoB w.heap.size) w w'):Kept NoB w w':=⟨h.os,h.tape,h.output,h.size,fun k hk _=>h.block k hk (fun e=>by unfold LoB at e;omega)⟩
theorem headW_lt {lit dist code:List Int}{told:Nat}{rs:List (Int × Int)}(hc:CodeW code told rs (lit++dist))(hb:headB lit dist=true):∀ y∈headW lit dist code told rs,y.1 < 2 ^ y.2:=by
 obtain ⟨⟨b1,b2,b3,b4⟩,_⟩:=head_small hb
 have hlo:=hc.lo
 have hhi:=hc.hi
 intro y hy
 unfold headW at hy
 rcases List.mem_append.1 hy with h | h
 ·rcases List.mem_append.1 h with h | h
  ·simp only [List.mem_cons,List.not_mem_nil,or_false] at h
   rcases h with rfl | rfl | rfl
   ·show lit.length - 257 < 32;omega
   ·show dist.length - 1 < 32;omega
   ·show told - 4 < 16;omega
  ·unfold wordsC at h
   obtain ⟨i,_,rfl⟩:=List.mem_map.1 h
   show (code.getD (ordL.getD i 0).toNat 0).toNat < 8
   generalize (ordL.getD i 0).toNat=q
   by_cases hl:q < code.length
   ·have e:code.getD q 0=code[q]:=by simp [List.getD,hl]
    have:=hc.small _ (List.getElem_mem hl)
    rw [e];omega
   ·have e:code.getD q 0=0:=by simp [List.getD,List.getElem?_eq_none (Nat.le_of_not_lt hl)]
    rw [e];decide
 ·unfold wordsR at h
  obtain ⟨z,hz,h⟩:=List.mem_flatMap.1 h
  have ho:=runAll_ok _ rs [] _ hc.runs z hz
  simp only [List.mem_cons,List.not_mem_nil,or_false] at h
  rcases h with rfl | rfl
  ·exact wordZ_lt _ _
  ·exact spanM_lt _ _ ho.2.2
theorem TokW.lt {lit dist:List Int}{t:Tk}{ws:List (Nat × Nat)}(h:TokW lit dist t ws):∀ y∈ws,y.1 < 2 ^ y.2:=by
 intro y hy
 cases h with
 | one c _ _ _=>simp only [List.mem_cons,List.not_mem_nil,or_false] at hy;subst hy;exact wordZ_lt _ _
 | long j u hj hu _ _=>
  simp only [List.mem_cons,List.not_mem_nil,or_false] at hy
  rcases hy with rfl | rfl | rfl | rfl
  ·exact wordZ_lt _ _
  ·decide
  ·exact wordZ_lt _ _
  ·exact hu
 | copy i v j u hi hv hlv hj hu _ _=>
  simp only [List.mem_cons,List.not_mem_nil,or_false] at hy
  rcases hy with rfl | rfl | rfl | rfl
  ·exact wordZ_lt _ _
  ·exact hv
  ·exact wordZ_lt _ _
  ·exact hu
theorem TokWs.lt {lit dist:List Int}{ts:List Tk}{ws:List (Nat × Nat)}(h:TokWs lit dist ts ws):∀ y∈ws,y.1 < 2 ^ y.2:=by
 induction h with
 | nil=>intro y hy;cases hy
 | cons a _ ih=>intro y hy;rcases List.mem_append.1 hy with h | h;exact a.lt y h;exact ih y h
theorem puts_of {w w':World}{R cap:Nat}{v0:Value}{ps:List (Nat × Nat)}{ao:Option Addr}{bs:List Int}(h:WroteP w R v0 [] 0 ps w' ao cap bs)(hlt:∀ y∈ps,y.1 < 2 ^ y.2):Puts bs 0 ps:=
 ⟨⟨0,by decide,by rw [h.2.1];simp [num]⟩,hlt,by have:=h.1.2.2.2.1;omega⟩
structure BlkS (s:Nat)(last:Bool)(ps:List (Nat × Nat))(b:List Int):Prop where
 lt:∀ y∈ps,y.1 < 2 ^ y.2
 run:∀ (bs:List Int) (pre post:List (Nat × Nat)) (most:Nat) (l0:Bool) (out:List Int),s=wdN pre→Puts bs 0 (pre++ps++post)→out.length+b.length≤most→Steps bs most (wdN pre) .block l0 out (wdN (pre++ps)) (endM last) last (out++b)
theorem lastN_one (last:Bool):lastN last < 2 ^ 1:=lastN_lt last
theorem BlkS.stored (s:Nat)(last:Bool)(b:List Int)(hb:AllB b)(hl:b.length≤65535):BlkS s last (storedW last (up8 (s+3) - (s+3)) b) b:=by
 have hup:up8 (s+3) - (s+3) < 8∧(s+3+(up8 (s+3) - (s+3))) % 8=0:=by unfold up8;omega
 refine ⟨fun y hy=>?_,fun bs pre post most l0 out hs hp hm=>?_⟩
 ·unfold storedW at hy
  rcases List.mem_append.1 hy with h | h
  ·simp only [List.mem_cons,List.not_mem_nil,or_false] at h
   rcases h with rfl | rfl | rfl | rfl | rfl
   ·exact lastN_one last
   ·decide
   ·exact Nat.two_pow_pos _
   ·show b.length < 65536;omega
   ·show 65535 - b.length < 65536;omega
  ·unfold bytesW at h
   obtain ⟨x,hx,rfl⟩:=List.mem_map.1 h
   have:=hb x hx
   show x.toNat < 256;omega
 ·have h:=stored_steps (s:=0) (most:=most) (l0:=l0) (out:=out) (last:=last) (pad:=up8 (s+3) - (s+3)) (b:=b) (pre:=pre) (post:=post) hp hb hl hup.1 (by rw [Nat.zero_add,← hs];exact hup.2) hm
  simpa using h
theorem steps_bound {b O:List Int}{M P:Nat}{l:Bool}(hs:Steps b M 0 .block false [] P .fin l O){p:Nat}{m:Md}{l':Bool}{o:List Int}(h:Steps b M 0 .block false [] p m l' o):o.length≤O.length:=
 (Steps.ahead h trivial hs (.inl rfl)).fit.1
theorem infoTk:(Tryz.prog.info? 101).map (fun i=>(i.zero,i.size,i.bytes))=some (some (.agg #[.int .i64 0,.int .i64 0,.int .u8 0]),3,24):=by kernel_rfl
def tkC (ts:List Tk):List Value:=ts.flatMap fun t=>[.int .i64 t.l,.int .i64 t.d,.int .u8 t.c]
theorem tkC_len (ts:List Tk):(tkC ts).length=ts.length*3:=by
 induction ts with
 | nil=>rfl
 | cons p r ih=>simp [tkC] at ih ⊢;omega
theorem tkC_at:∀ (ts:List Tk) (i:Nat) (h:i < ts.length),(tkC ts)[i*3]?=some (.int .i64 ts[i].l)∧(tkC ts)[i*3+1]?=some (.int .i64 ts[i].d)∧(tkC ts)[i*3+2]?=some (.int .u8 ts[i].c):=by
 intro ts
 induction ts with
 | nil=>intro i hi;simp at hi
 | cons p r ih=>
  intro i hi
  have e:tkC (p :: r) = .int .i64 p.l :: .int .i64 p.d :: .int .u8 p.c :: tkC r:=by simp [tkC]
  rw [e]
  cases i with
  | zero=>exact ⟨rfl,rfl,rfl⟩
  | succ i=>
   have hi':i < r.length:=by simpa using hi
   obtain ⟨h1,h2,h3⟩:=ih i hi'
   rw [show (i+1)*3=i*3+1+1+1 by omega]
   refine ⟨by simpa using h1,?_,?_⟩
   ·rw [List.getElem?_cons_succ,List.getElem?_cons_succ,List.getElem?_cons_succ];simpa using h2
   ·rw [List.getElem?_cons_succ,List.getElem?_cons_succ,List.getElem?_cons_succ];simpa using h3
structure TkSt (lo:Nat)(w:World)(a:Option Addr)(l c:Nat)(ts:List Tk):Prop where
 len:l=ts.length
 own:w.ownsRow 0 101 3 (.slice a l c) l (tkC ts)
 fresh:∀ k,(Value.slice a l c).ownBlock=some k→lo≤k
theorem TkSt.start (lo:Nat)(w:World):TkSt lo w none 0 0 []:=⟨rfl,World.ownsRow_nil _ _ _ _,(fun k hk=>by simp [Value.ownBlock] at hk)⟩
theorem TkSt.keptS {S:Nat→Prop}{lo:Nat}{w w':World}{a:Option Addr}{l c:Nat}{ts:List Tk}(h:TkSt lo w a l c ts)(hk:Kept S w w')(hs:∀ k,lo≤k→¬ S k):TkSt lo w' a l c ts:=
 ⟨h.len,hk.row h.own (fun k hk2=>hs k (h.fresh k hk2)),h.fresh⟩
theorem TkSt.reads {lo:Nat}{w:World}{a:Option Addr}{l c:Nat}{ts:List Tk}(h:TkSt lo w a l c ts):Toks w a ts:=by
 intro i hi
 have hl:=h.len
 have e:ts.getD i ⟨0,0,0⟩=ts[i]:=by simp [List.getD,hi]
 rw [e]
 rcases h.own.2 with ⟨_,hz⟩ | ⟨g,cc,cur,hv,_⟩
 ·omega
 ·simp at hv
  obtain ⟨rfl,rfl⟩:=hv
  obtain ⟨h1,h2,h3⟩:=tkC_at ts i hi
  refine ⟨g,0,rfl,?_,?_,?_⟩
  ·rw [Nat.zero_add,← h1];exact h.own.cellAt (i*3) (by omega)
  ·rw [Nat.zero_add,← h2];exact h.own.cellAt (i*3+1) (by omega)
  ·rw [Nat.zero_add,← h3];exact h.own.cellAt (i*3+2) (by omega)
theorem TkSt.cap {lo:Nat}{w:World}{a:Option Addr}{l c:Nat}{ts:List Tk}(h:TkSt lo w a l c ts):l≤c∧c≤maxLen∧(a=none→c=0):=by
 rcases h.own.2 with ⟨hv,hz⟩ | ⟨g,cc,cur,hv,_,_,h1,h2,_⟩
 ·simp at hv
  obtain ⟨_,rfl,rfl⟩:=hv
  exact ⟨Nat.le_refl _,Nat.zero_le _,fun _=>rfl⟩
 ·simp at hv
  obtain ⟨rfl,rfl⟩:=hv
  exact ⟨h1,h2,fun h=>by cases h⟩
theorem slice_shape {w:World}{base e s:Nat}{v:Value}{n:Nat}{xs:List Value}(h:w.ownsRow base e s v n xs):∃ ao cap,v = .slice ao n cap:=by
 rcases h.2 with ⟨rfl,rfl⟩ | ⟨g,cap,cur,rfl,_⟩
 ·exact ⟨none,0,rfl⟩
 ·exact ⟨_,cap,rfl⟩
theorem wpList_tk {ops:Array Oper}{rest:List Oper}{o:Oper}{act:Act}{w:World}{Q:Exit→Act→World→Prop}(hgd:o.guard=none)(s x:Operand)
  (ho:o.op = .call { callee := .builtin .append,args:=#[s,x],argTypes:=#[98,98] })
  {lo:Nat} {a1:Option Addr} {l1 c1:Nat} {ts:List Tk} (hS:TkSt lo w a1 l1 c1 ts) (hlo:lo≤w.heap.size) (hs:act.eval s = .slice a1 l1 c1)
  (g cx:Nat) (t:Tk) (hx:act.eval x = .slice (some ⟨g,0,none⟩) 1 cx) (h0:w.cell? ⟨g,0,none⟩=some (.int .i64 t.l)) (h1:w.cell? ⟨g,1,none⟩=some (.int .i64 t.d)) (h2':w.cell? ⟨g,2,none⟩=some (.int .u8 t.c)) (hn:l1≤1000000)
  (h:∀ a2 c2 w',TkSt lo w' a2 (l1+1) c2 (ts++[t])→Kept (fun k=>lo≤k) w w'→wpList Tryz.prog ops Q rest (act.put o.dst (.slice a2 (l1+1) c2)) w'):wpList Tryz.prog ops Q (o :: rest) act w:=by
 obtain ⟨i0,hi,hz0,hz1,hz2⟩:=info_parts infoTk
 refine wpList_app w hgd s x 98 ho 101 i0 (.agg #[.int .i64 0,.int .i64 0,.int .u8 0]) 3 24 Tryz.underlying98 hi hz0 hz1 hz2 rfl (by decide) _ l1 (tkC ts) hs hS.own ⟨g,0,none⟩ 1 cx [.int .i64 t.l,.int .i64 t.d,.int .u8 t.c] hx rfl ?_ ?_ (by unfold maxLen;omega) (by omega) ?_
 ·intro j u hu
  rw [addr_add,Nat.zero_add]
  match j with
  | 0=>simp at hu;subst hu;exact h0
  | 1=>simp at hu;subst hu;exact h1
  | 2=>simp at hu;subst hu;exact h2'
  | j+3=>simp at hu
 ·intro u hu
  simp at hu
  rcases hu with rfl | rfl | rfl <;> rfl
 intro v' w' h2 h3 h4
 obtain ⟨a2,c2,rfl⟩:=slice_shape h2
 refine h _ _ _ ⟨by rw [List.length_append,← hS.len];rfl,by simpa [tkC] using h2,?_⟩ ((Kept.refl _ w).grown h3 (fun k _ e=>hS.fresh k e))
 intro k hk
 rcases h4 k hk with h | h
 ·exact hS.fresh k h
 ·omega
end Go.Proofs.YtfmjfgmbjdhogaaGreatDoor
namespace Go.Proofs.YtfmjfgmbjdhogaaGreatDoor
open Go.RowKit
variable {T1 T2 : TypeId} {w0 w w' : World} {A : Nat} {aoa : Option Addr} {capa : Nat} {ba : List Int} {sa : Nat} {B : Nat} {aob : Option Addr} {capb : Nat} {bb : List Int} {sb : Nat}
end Go.Proofs.YtfmjfgmbjdhogaaGreatDoor
namespace Go.Proofs.YtfmjfgmbjdhogaaGreatDoor
open Go.RowKit
end Go.Proofs.YtfmjfgmbjdhogaaGreatDoor
namespace Go.Proofs.YtfmjfgmbjdhogaaGreatDoor
open Go.RowKit
variable {T1 T2 : TypeId} {w0 w w' : World} {A : Nat} {aoa : Option Addr} {capa : Nat} {ba : List Int} {sa : Nat} {B : Nat} {aob : Option Addr} {capb : Nat} {bb : List Int} {sb : Nat}
end Go.Proofs.YtfmjfgmbjdhogaaGreatDoor
namespace Go.Proofs.YtfmjfgmbjdhogaaGreatDoor
open Go.RowKit
structure PartR (a:Option Addr)(len cap:Nat)(xs:List Int)(l h:Nat)(o1:Option Addr)(c1:Nat):Prop where
 reads:∀ W,Reads W a xs→Reads W o1 ((xs.drop l).take (h - l))
 room:h - l≤c1
 block:∀ q,o1=some q→∃ q',a=some q'∧q.block=q'.block
theorem part_of (a:Option Addr)(len cap l h:Nat)(xs:List Int)(hlen:len=xs.length)(hs:∀ q,a=some q→∃ g,q=⟨g,0,none⟩)(hl:l≤h)(hh:h≤len)(hc:len≤cap)(hn:a=none→cap=0):
  ∃ o1 c1,sliced a l h cap 1 = .slice o1 (h - l) c1∧PartR a len cap xs l h o1 c1:=by
 cases a with
 | none=>
  have h0:=hn rfl
  refine ⟨none,cap - l,?_,⟨fun W hr=>?_,by omega,fun q e=>by cases e⟩⟩
  ·unfold sliced
   rw [if_pos (by omega)]
  ·have e:(xs.drop l).take (h - l)=[]:=List.eq_nil_of_length_eq_zero (by rw [List.length_take,List.length_drop];omega)
   rw [e];exact ⟨fun _=>rfl,fun a ha=>by cases ha⟩
 | some q=>
  obtain ⟨g,rfl⟩:=hs q rfl
  by_cases hcl:cap=l
  ·refine ⟨some ⟨g,0,none⟩,cap - l,?_,⟨fun W hr=>?_,by omega,fun q e=>⟨_,rfl,by cases e;rfl⟩⟩⟩
   ·unfold sliced
    rw [if_pos hcl]
   ·have e:(xs.drop l).take (h - l)=[]:=List.eq_nil_of_length_eq_zero (by rw [List.length_take,List.length_drop];omega)
    rw [e];exact reads_empty
  ·refine ⟨some ⟨g,l,none⟩,cap - l,?_,⟨fun W hr=>?_,by omega,fun q e=>⟨_,rfl,by cases e;rfl⟩⟩⟩
   ·unfold sliced
    rw [if_neg hcl]
    simp [Addr.add]
    intro h0
    exact h0.symm
   ·have h1:=reads_drop l hr
    rw [addr_add,Nat.zero_add] at h1
    exact reads_take _ h1
set_option maxRecDepth 100000 in
theorem size_u8:∀ W:World,(sizeOf (Tryz.prog.elem 22)).run Tryz.prog W = .ok 1 W:=fun W=>by rfl
theorem slc_lh (a:Option Addr)(len cap l h:Nat)(xs:List Int)(hlen:len=xs.length)(hs:∀ q,a=some q→∃ g,q=⟨g,0,none⟩)(hl:l≤h)(hh:h≤len)(hc:len≤cap)(hn:a=none→cap=0):
  ∃ o1 c1,(∀ W,(Instr.slice 22 (.slice a len cap) (some (.int .i64 (l:Int))) (some (.int .i64 (h:Int))) none).run Tryz.prog W = .ok (.slice o1 (h - l) c1) W)∧PartR a len cap xs l h o1 c1:=by
 obtain ⟨o1,c1,h1,h2⟩:=part_of a len cap l h xs hlen hs hl hh hc hn
 refine ⟨o1,c1,fun W=>?_,h2⟩
 rw [run_slice_lh (P:=Tryz.prog) (w:=W) 22 a len cap (by kernel_rfl) .i64 .i64 (l:Int) (h:Int) (by omega) (by omega) (by omega),size_u8]
 simp only [Result.andThen,Int.toNat_natCast]
 rw [h1]
theorem slc_l (a:Option Addr)(len cap l:Nat)(xs:List Int)(hlen:len=xs.length)(hs:∀ q,a=some q→∃ g,q=⟨g,0,none⟩)(hl:l≤len)(hc:len≤cap)(hn:a=none→cap=0):
  ∃ o1 c1,(∀ W,(Instr.slice 22 (.slice a len cap) (some (.int .i64 (l:Int))) none none).run Tryz.prog W = .ok (.slice o1 (len - l) c1) W)∧PartR a len cap xs l len o1 c1:=by
 obtain ⟨o1,c1,h1,h2⟩:=part_of a len cap l len xs hlen hs hl (Nat.le_refl _) hc hn
 refine ⟨o1,c1,fun W=>?_,h2⟩
 rw [run_slice_l (P:=Tryz.prog) (w:=W) 22 a len cap (by kernel_rfl) .i64 (l:Int) (by omega) (by omega),size_u8]
 simp only [Result.andThen,Int.toNat_natCast]
 rw [h1]
structure PartG (a:Option Addr)(xs:List Int)(l h:Nat)(o1:Option Addr):Prop where
 reads:∀ W,Reads W a xs→Reads W o1 ((xs.drop l).take (h - l))
 nil:o1=none↔a=none
theorem partG_of (a:Option Addr)(len cap l h:Nat)(xs:List Int)(hlen:len=xs.length)(hl:l≤h)(hh:h≤len)(hc:len≤cap)(hn:a=none→cap=0):
  ∃ o1,sliced a l h cap 1 = .slice o1 (h - l) (cap - l)∧PartG a xs l h o1:=by
 cases a with
 | none=>
  have h0:=hn rfl
  refine ⟨none,?_,⟨fun W hr=>?_,by simp⟩⟩
  ·unfold sliced
   rw [if_pos (by omega)]
  ·have e:(xs.drop l).take (h - l)=[]:=List.eq_nil_of_length_eq_zero (by rw [List.length_take,List.length_drop];omega)
   rw [e];exact ⟨fun _=>rfl,fun a ha=>by cases ha⟩
 | some q=>
  by_cases hcl:cap=l
  ·refine ⟨some q,?_,⟨fun W hr=>?_,by simp⟩⟩
   ·unfold sliced
    rw [if_pos hcl]
   ·have e:(xs.drop l).take (h - l)=[]:=List.eq_nil_of_length_eq_zero (by rw [List.length_take,List.length_drop];omega)
    rw [e];exact reads_empty
  ·refine ⟨some (q.add l),?_,⟨fun W hr=>?_,by simp⟩⟩
   ·unfold sliced
    rw [if_neg hcl]
    simp
   ·exact reads_take _ (reads_drop l hr)
theorem slg_h (a:Option Addr)(len cap h:Nat)(xs:List Int)(hlen:len=xs.length)(hh:h≤len)(hc:len≤cap)(hn:a=none→cap=0):
  ∃ o1,(∀ W,(Instr.slice 22 (.slice a len cap) none (some (.int .i64 (h:Int))) none).run Tryz.prog W = .ok (.slice o1 h cap) W)∧PartG a xs 0 h o1:=by
 obtain ⟨o1,h1,h2⟩:=partG_of a len cap 0 h xs hlen (Nat.zero_le _) hh hc hn
 refine ⟨o1,fun W=>?_,h2⟩
 rw [run_slice_h (P:=Tryz.prog) (w:=W) 22 a len cap (by kernel_rfl) .i64 (h:Int) (by omega) (by omega),size_u8]
 simp only [Result.andThen,Int.toNat_natCast]
 rw [h1,Nat.sub_zero,Nat.sub_zero]
theorem slg_lh (a:Option Addr)(len cap l h:Nat)(xs:List Int)(hlen:len=xs.length)(hl:l≤h)(hh:h≤len)(hc:len≤cap)(hn:a=none→cap=0):
  ∃ o1,(∀ W,(Instr.slice 22 (.slice a len cap) (some (.int .i64 (l:Int))) (some (.int .i64 (h:Int))) none).run Tryz.prog W = .ok (.slice o1 (h - l) (cap - l)) W)∧PartG a xs l h o1:=by
 obtain ⟨o1,h1,h2⟩:=partG_of a len cap l h xs hlen hl hh hc hn
 refine ⟨o1,fun W=>?_,h2⟩
 rw [run_slice_lh (P:=Tryz.prog) (w:=W) 22 a len cap (by kernel_rfl) .i64 .i64 (l:Int) (h:Int) (by omega) (by omega) (by omega),size_u8]
 simp only [Result.andThen,Int.toNat_natCast]
 rw [h1]
theorem slg_l (a:Option Addr)(len cap l:Nat)(xs:List Int)(hlen:len=xs.length)(hl:l≤len)(hc:len≤cap)(hn:a=none→cap=0):
  ∃ o1,(∀ W,(Instr.slice 22 (.slice a len cap) (some (.int .i64 (l:Int))) none none).run Tryz.prog W = .ok (.slice o1 (len - l) (cap - l)) W)∧PartG a xs l len o1:=by
 obtain ⟨o1,h1,h2⟩:=partG_of a len cap l len xs hlen hl (Nat.le_refl _) hc hn
 refine ⟨o1,fun W=>?_,h2⟩
 rw [run_slice_l (P:=Tryz.prog) (w:=W) 22 a len cap (by kernel_rfl) .i64 (l:Int) (by omega) (by omega),size_u8]
 simp only [Result.andThen,Int.toNat_natCast]
 rw [h1]
structure CurRow (w:World)(bo:Option Addr)(c:Nat)(b:List Int):Prop where
 rd:Reads w bo b
 all:AllB b
 cap:b.length≤c
 most:c≤maxLen
 nil:bo=none→c=0
theorem CurRow.keptNo {w w':World}{bo:Option Addr}{c:Nat}{b:List Int}(h:CurRow w bo c b)(hk:Kept NoB w w'):CurRow w' bo c b:=⟨h.rd.keptNo hk,h.all,h.cap,h.most,h.nil⟩
def CurO (w:World)(C:Nat)(bo:Option Addr)(c:Nat)(b:List Int)(s:Cur):Prop:=w.heap[C]?=some (.cells #[.slice bo b.length c,.int .i64 (s.at_:Int),.int .i64 s.e] 93 (0,0))
def TookB (w:World)(C:Nat)(bo:Option Addr)(c:Nat)(b:List Int)(s:Cur)(n:Nat)(e:Ending)(w':World):Prop:=
 ∃ (o:Option Addr) (m k:Nat),e = .returned (.slice o m k)∧Hid (CurO w' C bo c b (takeS b s n))∧Hid (Kept (OneB C) w w')∧Hid (m=(takeB b s n).length)∧Hid (∀ W,CurRow W bo c b→Reads W o (takeB b s n))∧m≤k∧k≤c∧Hid (o=none→k=0)
theorem take_any (w:World)(C:Nat)(bo:Option Addr)(c:Nat)(b:List Int)(s:Cur)(n:Nat)(z:Int)(hz:z=(n:Int))(hO:CurO w C bo c b s)(hR:CurRow w bo c b)(hat:s.at_≤b.length)(hb:b.length≤1000000)(hn:n≤1000000):
  Calls Tryz.prog 80 #[.pointer (some ⟨C,0,none⟩),.int .i64 z] w (TookB w C bo c b s n):=by
 subst hz
 obtain ⟨p,e⟩:=s
 have c0:w.cell? ⟨C,0,none⟩=some (.slice bo b.length c):=obj_cell hO 0
 have c1:w.cell? ⟨C,1,none⟩=some (.int .i64 (p:Int)):=obj_cell hO 1
 have c2:w.cell? ⟨C,2,none⟩=some (.int .i64 e):=obj_cell hO 2
 have f1:=obj_free hO 1
 have f2:=obj_free hO 2
 dsimp only at hat
 obtain ⟨l,hl⟩:∃ l,l=b.length:=⟨_,rfl⟩
 rw [← hl] at c0 hat hb
 have hcl:l≤c:=by rw [hl];exact hR.cap
 have HO:=Hd hO;have HR:=Hd hR;have HL:=Hd hl
 clear hO hR hl
 by_cases he:e=0
 ·subst he
  by_cases hfit:l - p < n
  ·have hsub:IntKind.i64.wrap ((l:Int) - (p:Int))=((l - p:Nat):Int):=by rw [IntWalk.i64_in _ (by omega)];omega
   have HT:Hid (takeS b ⟨p,0⟩ n=⟨p,2⟩∧takeB b ⟨p,0⟩ n=[]):=Hd (by
    unfold takeS takeB
    rw [if_neg (show ¬ (Cur.mk p 0).e≠0 from fun k=>k rfl),if_neg (show ¬ (Cur.mk p 0).e≠0 from fun k=>k rfl),if_pos (by show n > b.length - p;rw [← HL.out];omega),if_pos (by show n > b.length - p;rw [← HL.out];omega)]
    exact ⟨rfl,rfl⟩)
   have HO2:=Hd (obj_set HO.out 2 (.int .i64 2))
   obtain ⟨d,hd⟩:∃ d,d=l - p:=⟨_,rfl⟩
   rw [← hd] at hsub hfit
   clear hd
   go_enter Tryz.func80,Tryz.ntmps80
   go_wp2_with fail
   go_quiet (fail)
   go_wp2
   go_ret
   refine ⟨none,0,0,rfl,Hd ?_,Hd ?_,Hd (by rw [HT.out.2];rfl),Hd (fun W h=>by rw [HT.out.2];exact ⟨fun _=>rfl,fun a ha=>by cases ha⟩),Nat.le_refl _,Nat.zero_le _,Hd (fun _=>rfl)⟩
   ·rw [HT.out.1];exact HO2.out
   ·exact Kept.setCell (S:=OneB C) (p:=⟨C,2,none⟩) ((Kept.refl _ _).drewN _) (.inl rfl) _
  ·have hsub:IntKind.i64.wrap ((l:Int) - (p:Int))=((l - p:Nat):Int):=by rw [IntWalk.i64_in _ (by omega)];omega
   have HT:Hid (takeS b ⟨p,0⟩ n=⟨p+n,0⟩∧takeB b ⟨p,0⟩ n=(b.drop p).take n):=Hd (by
    unfold takeS takeB
    rw [if_neg (show ¬ (Cur.mk p 0).e≠0 from fun k=>k rfl),if_neg (show ¬ (Cur.mk p 0).e≠0 from fun k=>k rfl),if_neg (by show ¬ n > b.length - p;rw [← HL.out];omega),if_neg (by show ¬ n > b.length - p;rw [← HL.out];omega)]
    exact ⟨rfl,rfl⟩)
   obtain ⟨o1,hsl,hpt⟩:=slg_lh bo l c p (p+n) b HL.out (by omega) (by omega) hcl HR.out.nil
   rw [Nat.add_sub_cancel_left] at hsl
   have HO2:=Hd (obj_set HO.out 1 (.int .i64 ((p+n:Nat):Int)))
   have hnl:(b.drop p).length=l - p:=by rw [List.length_drop,HL.out]
   have HNl:Hid (n=((b.drop p).take n).length):=Hd (by rw [List.length_take];omega)
   have HPt:=Hd hpt
   have hco:n≤c - p:=by omega
   have HC0:Hid (bo=none→c - p=0):=Hd (fun h=>by have:=HR.out.nil h;omega)
   obtain ⟨q,hq⟩:∃ q,q=p+n:=⟨_,rfl⟩
   have hadd:(p:Int)+(n:Int)=(q:Int):=by omega
   have hback:IntKind.i64.wrap ((q:Int) - (n:Int))=(p:Int):=by rw [IntWalk.i64_in _ (by omega)];omega
   have hqb:q≤2000000:=by omega
   have hpb:p≤1000000:=by omega
   rw [← hq] at hsl HO2 HT
   have HQ:=Hd hq
   obtain ⟨d,hd⟩:∃ d,d=l - p:=⟨_,rfl⟩
   rw [← hd] at hsub hfit
   obtain ⟨k,hk⟩:∃ k,k=c - p:=⟨_,rfl⟩
   rw [← hk] at hsl hco HC0
   have hkc:k≤c:=by omega
   clear hd hk hpt hnl hq
   go_enter Tryz.func80,Tryz.ntmps80
   go_wp2_with fail
   go_quiet (fail)
   go_upto_region 7 with fail
   have ho3:CurO ((w.drewN nq).setCell ⟨C,1,none⟩ (.int .i64 (q:Int))) C bo c b ⟨q,0⟩:=obj_set (w:=w.drewN nq) HO.out 1 (.int .i64 (q:Int))
   have hk3:Kept (OneB C) w ((w.drewN nq).setCell ⟨C,1,none⟩ (.int .i64 (q:Int))):=Kept.setCell (S:=OneB C) (p:=⟨C,1,none⟩) ((Kept.refl _ w).drewN _) (.inl rfl) _
   generalize (w.drewN nq).setCell ⟨C,1,none⟩ (.int .i64 (q:Int))=w3 at ho3 hk3 ⊢
   have d0:w3.cell? ⟨C,0,none⟩=some (.slice bo l c):=by rw [HL.out];exact obj_cell ho3 0
   have d1:w3.cell? ⟨C,1,none⟩=some (.int .i64 (q:Int)):=obj_cell ho3 1
   have HO3:=Hd ho3;have HK3:=Hd hk3
   clear ho3 hk3 c0 c1 c2 f1 f2 hadd hsub
   go_quiet (fail)
   go_wp2
   go_ret
   refine ⟨o1,n,k,rfl,Hd ?_,Hd (HK3.out.drewN _),Hd (by rw [HT.out.2];exact HNl.out),Hd (fun W h=>by
    have:=HPt.out.reads W h.rd
    rw [Nat.add_sub_cancel_left] at this
    rw [HT.out.2]
    exact this),hco,hkc,Hd (fun e=>HC0.out (HPt.out.nil.1 e))⟩
   rw [HT.out.1]
   exact HO3.out
 ·have HT:Hid (takeS b ⟨p,e⟩ n=⟨p,e⟩∧takeB b ⟨p,e⟩ n=[]):=Hd ⟨takeS_e he,takeB_e he⟩
  have he2:(e == 0)=false:=by simpa using he
  have he3:(e != 0)=true:=by simpa using he
  go_enter Tryz.func80,Tryz.ntmps80
  go_wp2
  go_ret
  refine ⟨none,0,0,rfl,Hd ?_,Hd (Kept.refl _ _),Hd (by rw [HT.out.2];rfl),Hd (fun W h=>by rw [HT.out.2];exact ⟨fun _=>rfl,fun a ha=>by cases ha⟩),Nat.le_refl _,Nat.zero_le _,Hd (fun _=>rfl)⟩
  rw [HT.out.1];exact HO.out
theorem refuse_any (w:World)(C:Nat)(bo:Option Addr)(c:Nat)(b:List Int)(s:Cur)(x:Bool)(e:Int)(hO:CurO w C bo c b s):
  Calls Tryz.prog 81 #[.pointer (some ⟨C,0,none⟩),.bool x,.int .i64 e] w fun e' w'=>e' = .returned (.tuple #[])∧CurO w' C bo c b (refS2 s x e)∧Kept (OneB C) w w':=by
 obtain ⟨p,z⟩:=s
 have c2:w.cell? ⟨C,2,none⟩=some (.int .i64 z):=obj_cell hO 2
 have f2:=obj_free hO 2
 have HO2:=Hd (obj_set hO 2 (.int .i64 e))
 have HO:=Hd hO
 clear hO
 by_cases hz:z=0
 ·subst hz
  cases x with
  | true=>
   go_enter Tryz.func81,Tryz.ntmps81
   go_wp2
   refine bodyPost_end (results_none rfl _ _ _) rfl ?_
   exact ⟨rfl,HO2.out,Kept.setCell (S:=OneB C) (p:=⟨C,2,none⟩) (Kept.refl _ _) (.inl rfl) _⟩
  | false=>
   go_enter Tryz.func81,Tryz.ntmps81
   go_wp2
   refine bodyPost_end (results_none rfl _ _ _) rfl ?_
   exact ⟨rfl,HO.out,Kept.refl _ _⟩
 ·have hz2:(z == 0)=false:=by simpa using hz
  have HR:Hid (refS2 ⟨p,z⟩ x e=⟨p,z⟩):=Hd (refS2_e hz)
  go_enter Tryz.func81,Tryz.ntmps81
  go_wp2
  refine bodyPost_end (results_none rfl _ _ _) rfl ?_
  exact ⟨rfl,by rw [HR.out];exact HO.out,Kept.refl _ _⟩
theorem takeS_at {b:List Int}{s:Cur}{n:Nat}(h:s.at_≤b.length):(takeS b s n).at_≤b.length:=by
 unfold takeS
 split
 ·exact h
 ·split
  ·exact h
  ·dsimp only;omega
theorem refS2_at {s:Cur}{x:Bool}{e:Int}:(refS2 s x e).at_=s.at_:=by unfold refS2;split <;> rfl
theorem takeB_len {b:List Int}{s:Cur}{n:Nat}:(takeB b s n).length≤n:=by
 unfold takeB
 split
 ·exact Nat.zero_le _
 ·split
  ·exact Nat.zero_le _
  ·rw [List.length_take];omega
theorem takeB_all {b:List Int}{s:Cur}{n:Nat}(h:AllB b):AllB (takeB b s n):=by
 unfold takeB
 split
 ·intro x hx;cases hx
 ·split
  ·intro x hx;cases hx
  ·exact (h.drop _).take _
theorem that_any (w:World)(C:Nat)(bo:Option Addr)(c:Nat)(b:List Int)(s:Cur)(want e:Int)(hO:CurO w C bo c b s)(hR:CurRow w bo c b)(hRk:∀ W,Kept (OneB C) w W→CurRow W bo c b)(hat:s.at_≤b.length)(hb:b.length≤1000000):
  Calls Tryz.prog 79 #[.pointer (some ⟨C,0,none⟩),.int .u8 want,.int .i64 e] w fun e' w'=>e' = .returned (.tuple #[])∧CurO w' C bo c b (thatS b s want e)∧Kept (OneB C) w w':=by
 have HTk:=Hd (take_any w C bo c b s 1 1 rfl hO hR hat hb (by decide))
 have HRk:=Hd hRk
 have hlen:=takeB_len (b:=b) (s:=s) (n:=1)
 have hall:=takeB_all (s:=s) (n:=1) hR.all
 have HTh:Hid (thatS b s want e=refS2 (takeS b s 1) (decide ((takeB b s 1).length=1∧(takeB b s 1).getD 0 0≠want)) e):=Hd rfl
 unfold TookB at HTk
 generalize thatS b s want e=s2 at HTh ⊢
 generalize takeS b s 1=s1 at *
 generalize takeB b s 1=t at *
 clear hO hR hRk
 go_enter Tryz.func79,Tryz.ntmps79
 go_wp2_with fail
 refine HTk.out.mono ?_
 rintro e' w1 ⟨o,m,k,rfl,HO1,HK1,HM,HRd,hmk,hkc,hn⟩
 have hrf:=fun x=>refuse_any w1 C bo c b s1 x e HO1.out
 have HRf:=Hd hrf
 clear hrf HTk
 by_cases hm:m=1
 ·subst hm
  obtain ⟨y,hy⟩:∃ y,t=[y]:=by
   have:=HM.out
   match t,this with
   | [y],_=>exact ⟨y,rfl⟩
  have hr1:=HRd.out w1 (HRk.out w1 HK1.out)
  rw [hy] at hr1
  obtain ⟨g,of,rfl,_,hc⟩:=hr1.at (by simp)
  have c0:=hc 0 (by simp)
  rw [Nat.add_zero] at c0
  have c0:w1.cell? ⟨g,of,none⟩=some (.int .u8 y):=c0
  have HTh2:Hid (s2=refS2 s1 (!(y == want)) e):=Hd (by
   rw [HTh.out,hy]
   by_cases hyw:y=want
   ·rw [decide_eq_false (fun k=>k.2 hyw),hyw]
    rw [beq_self_eq_true];rfl
   ·rw [decide_eq_true ⟨rfl,hyw⟩,beq_eq_false_iff_ne.2 hyw];rfl)
  obtain ⟨bb,hbb⟩:∃ bb,bb=(!(y == want)):=⟨_,rfl⟩
  have hb2:(y != want)=bb:=by rw [hbb];rfl
  have hb3:(y == want) = !bb:=by rw [hbb,Bool.not_not]
  rw [← hbb] at HTh2
  clear hbb hc hr1 hy hall
  go_wp2_with fail
  refine (HRf.out bb).mono ?_
  rintro e' w2 ⟨rfl,h2,k2⟩
  have H2:=Hd h2;have K2:=Hd k2
  clear h2 k2
  go_wp2
  refine bodyPost_end (results_none rfl _ _ _) rfl ?_
  exact ⟨rfl,by rw [HTh2.out];exact H2.out,HK1.out.trans K2.out⟩
 ·have hm0:m=0:=by have:=HM.out;omega
  subst hm0
  have HTh2:Hid (s2=refS2 s1 false e):=Hd (by
   rw [HTh.out,decide_eq_false (by have:=HM.out;omega)])
  go_wp2_with fail
  refine (HRf.out false).mono ?_
  rintro e' w2 ⟨rfl,h2,k2⟩
  have H2:=Hd h2;have K2:=Hd k2
  clear h2 k2
  go_wp2
  refine bodyPost_end (results_none rfl _ _ _) rfl ?_
  exact ⟨rfl,by rw [HTh2.out];exact H2.out,HK1.out.trans K2.out⟩
end Go.Proofs.YtfmjfgmbjdhogaaGreatDoor
