import Derived.Test.YtfmjfgmbjdhogaaGreatDoorMb22
set_option linter.unusedVariables false
set_option linter.unusedSimpArgs false
set_option maxRecDepth 20000
set_option maxHeartbeats 8000000
namespace Go.Proofs.YtfmjfgmbjdhogaaGreatDoor
open Go.RowKit
theorem readHead_any {lo:Nat}{w:World}{D:Nat}{v:IV}{out bs:List Int}{S:Nat→Prop}{R:Nat}{ao:Option Addr}{cap p:Nat}(h:InfS lo w D v .head out bs S R ao cap p)(hlo:lo≤w.heap.size):
  Calls Tryz.prog 130 #[.pointer (some ⟨D,0,none⟩),.pointer (some ⟨R,0,none⟩)] w fun e w'=>∃ er,e = .returned (.int .i64 er)∧ItemW lo w D v .head out bs R ao cap p er w':=by
 have HL:=Hd (lensRead_any bs p R ao cap w h.rd)
 have H:=Hd h
 clear h
 go_enter Tryz.func130,Tryz.ntmps130
 go_wp2_with fail
 refine HL.out.mono ?_
 rintro e w1 ⟨la,lc,lit,da,dc,dist,f,q,q',rfl,hH,hr,hq,hol,hod,hk⟩
 have HH:=Hd hH;have HR:=Hd hr;have HOl:=Hd hol;have HOd:=Hd hod;have HK:=Hd hk;have HQ:=Hd hq
 clear hH hr hol hod hk hq HL
 by_cases h0:f=0
 ·subst h0
  obtain rfl:=HQ.out rfl
  obtain ⟨hcl,hcd,hpq⟩:=head_code HH.out
  have HN1:=Hd (new_calls2 la lc w1.heap.size lit w1 HOl.out.reads hcl.2.1 hcl.1 hcl.2.2)
  have HCl:=Hd hcl;have HCd:=Hd hcd;have HPq:=Hd hpq
  clear hcl hcd hpq HQ
  go_wp2_with fail
  refine HN1.out.mono ?_
  rintro e w2 ⟨Fl,rfl,hd2,hk2⟩
  have ho2:=(H.out.obj.kept HK.out (fun e=>H.out.DR e)).kept hk2 (fun e=>e)
  have c9:=ho2.c9
  have f9:=ho2.free 9
  have ho3:=ho2.setLi (some ⟨Fl,0,none⟩)
  obtain ⟨w3,hw3⟩:∃ w3,w3=w2.setCell ⟨D,9,none⟩ (.pointer (some ⟨Fl,0,none⟩)):=⟨_,rfl⟩
  have hk3:Kept (OneB D) w2 w3:=by rw [hw3];exact Kept.setCell (S:=OneB D) (p:=⟨D,9,none⟩) (Kept.refl _ w2) (.inl rfl) _
  rw [← hw3] at ho3
  have hod3:OwnI w3 da dc dist:=by
   have h2:OwnI w2 da dc dist:=hk2.row HOd.out (fun _ _ e=>e)
   exact hk3.row h2 (fun k e1 e2=>row_ne h2 ho2 (by decide) k e1 e2)
  have HN2:=Hd (new_calls2 da dc w3.heap.size dist w3 hod3.reads HCd.out.2.1 HCd.out.1 HCd.out.2.2)
  have HD2:=Hd hd2;have HK2:=Hd hk2;have HK3:=Hd hk3;have HO3:=Hd ho3;have HW3:=Hd hw3
  clear hd2 hk2 hk3 ho3 hw3 hod3 ho2 HN1
  go_upto_region 5 with fail
  rw [← HW3.out]
  clear c9 f9
  go_wp2_with fail
  refine HN2.out.mono ?_
  rintro e w4 ⟨Fd,rfl,hd4,hk4⟩
  have ho4:=HO3.out.kept hk4 (fun e=>e)
  have c10:=ho4.c10
  have f10:=ho4.free 10
  have ho5:=ho4.setDi (some ⟨Fd,0,none⟩)
  obtain ⟨w5,hw5⟩:∃ w5,w5=w4.setCell ⟨D,10,none⟩ (.pointer (some ⟨Fd,0,none⟩)):=⟨_,rfl⟩
  have hk5:Kept (OneB D) w4 w5:=by rw [hw5];exact Kept.setCell (S:=OneB D) (p:=⟨D,10,none⟩) (Kept.refl _ w4) (.inl rfl) _
  rw [← hw5] at ho5
  have c6:=ho5.c6
  have f6:=ho5.free 6
  have ho6:=ho5.setNx 4
  have hk6:Kept (OneB D) w5 (w5.setCell ⟨D,6,none⟩ (.int .i64 4)):=Kept.setCell (S:=OneB D) (p:=⟨D,6,none⟩) (Kept.refl _ w5) (.inl rfl) _
  simp only at c6
  have HD4:=Hd hd4;have HK4:=Hd hk4;have HK56:=Hd (hk5.trans hk6);have HO6:=Hd ho6;have HW5:=Hd hw5
  clear hd4 hk4 hk5 hk6 ho4 ho5 ho6 hw5 HN2
  go_upto_region 6 with fail
  rw [← HW5.out]
  go_wp2
  go_ret
  have hF:∀ {S:Nat→Prop} {a b:World},Kept NoB a b→Kept S a b:=fun h=>h.mono (fun _ _ e=>e.elim)
  have k26:=HK3.out.trans ((hF HK4.out).trans HK56.out)
  have k46:=HK56.out
  have k16:=(hF HK2.out).trans k26
  have hDl:=obj_lt H.out.obj
  have z1:=HK.out.size
  have z2:=HK2.out.size
  have z3:=HK3.out.size
  have z4:=HK4.out.size
  have z5:=k46.size
  have d1:=((HD2.out.toG.inH).kept k26 (fun k hk e=>by unfold OneB at e;omega)).mono (T:=fun k=>S k∨(w.heap.size≤k∧k < (w5.setCell ⟨D,6,none⟩ (.int .i64 4)).heap.size)) (fun k hk => .inr ⟨by omega,by omega⟩)
  have d2:=((HD4.out.toG.inH).kept k46 (fun k hk e=>by unfold OneB at e;omega)).mono (T:=fun k=>S k∨(w.heap.size≤k∧k < (w5.setCell ⟨D,6,none⟩ (.int .i64 4)).heap.size)) (fun k hk => .inr ⟨by omega,by omega⟩)
  have hT:=H.out.turn hlo HK.out HR.out k16 HO6.out rfl rfl rfl rfl (m' := .sym lit dist) rfl H.out.er (S':=fun k=>S k∨(w.heap.size≤k∧k < (w5.setCell ⟨D,6,none⟩ (.int .i64 4)).heap.size)) (fun _ e => .inl e) (fun _ e=>e) ⟨HCl.out,HCd.out,Fl,Fd,rfl,rfl,d1,d2⟩ ((H.out.fixAt HK.out k16 rfl rfl).more (fun _ e => .inl e))
  refine ⟨0,rfl,hT.2,_,_,_,_,_,hT.1,rfl,rfl,rfl,⟨rfl,rfl,rfl⟩,?_⟩
  rw [if_pos rfl]
  refine ⟨Steps.one ?_,HPq.out⟩
  unfold ItemR
  exact ⟨lit,dist,0,_,HH.out,by rw [if_pos rfl];exact ⟨rfl,rfl,rfl,rfl,rfl⟩⟩
 ·have g0:(f != 0)=true:=by simpa using h0
  go_wp2
  go_ret
  refine ⟨f,rfl,H.out.fails hlo HK.out (fun _ e=>e) HR.out f h0 ⟨0,.fin,false,[],?_⟩⟩
  unfold ItemR
  exact ⟨lit,dist,f,q,HH.out,by rw [if_neg h0]⟩
theorem sleft_q (w:World)(R:Nat)(a:Option Addr)(n c m r:Nat)(c0:w.cell? ⟨R,0,none⟩=some (.slice a n c))(c1:w.cell? ⟨R,1,none⟩=some (.int .i64 m))(hm:m≤9223372036854775807)(hn:n≤m)(hr:(r:Int)=(m:Int) - n):
  Calls Tryz.prog 154 #[.pointer (some ⟨R,0,none⟩)] w fun e w'=>e = .returned (.int .i64 r)∧∃ k,w'=w.drewN k:=by
 rw [hr]
 clear hr
 go_enter Tryz.func154,Tryz.ntmps154
 go_wp2
 go_quiet (fail)
 go_wp2
 go_ret
 exact ⟨rfl,_,rfl⟩
theorem slen_q (w:World)(R:Nat)(a:Option Addr)(n c:Nat)(c0:w.cell? ⟨R,0,none⟩=some (.slice a n c)):
  Calls Tryz.prog 178 #[.pointer (some ⟨R,0,none⟩)] w fun e w'=>e = .returned (.int .i64 n)∧∃ k,w'=w.drewN k:=by
 go_enter Tryz.func178,Tryz.ntmps178
 go_wp2
 go_ret
 exact ⟨rfl,0,rfl⟩
/-- Behind the window's growing: putOut. -/
theorem InfS.putCalls {lo:Nat}{w w1:World}{D:Nat}{v:IV}{m:Md}{out bs wnd x:List Int}{S:Nat→Prop}{R:Nat}{ao:Option Addr}{cap p g n c k:Nat}(h:InfS lo w D v m out bs S R ao cap p)(hlo:lo≤w.heap.size)(hk1:Kept (OwnB v.wn) w w1)
  (hwin:RowU w lo v.wn wnd) (hsx:Sfx wnd out) (hwl:wnd.length < 98304) (hown:w1.ownsRow 0 5 1 (.slice (some ⟨g,0,none⟩) n c) n ((wnd++x).map (.int .u8))) (hg:v.wn.ownBlock=some g∨w.heap.size≤g)
  (hn:n=wnd.length+x.length) (hx:x.length=k) (z:Int) (hz:(k:Int)=z) (hk0:1≤k) (hall:AllB x) (hfit:out.length+k≤v.most) (hsm:out.length+k≤1000000) (hn2:n≤1000000):
  Calls Tryz.prog 156 #[.pointer (some ⟨D,0,none⟩),.slice (some ⟨g,0,none⟩) n c,.int .i64 z] w1 fun e w2=>e = .returned (.tuple #[])∧Kept (LoB lo) w w2∧∃ sk' wn',InfS lo w2 D { v with sk:=sk',wn:=wn' } m (out++x) bs S R ao cap p:=by
 subst hz
 obtain ⟨ka,kc,hsk⟩:=own_shape h.sink.own
 have hD1:¬ OwnB v.wn D:=fun e=>(h.wnD D e).1 rfl
 have ho1:=h.obj.kept hk1 hD1
 have hs1:RowU w1 lo v.sk out:=h.sink.kept hk1 (fun j e1 e2=>h.sep j e1 e2)
 have hln:(wnd++x).length=n:=by rw [List.length_append,hn]
 have hgl:lo≤g:=by
  rcases hg with hg | hg
  ·exact hwin.fresh g hg
  ·omega
 have hsep:v.sk.ownBlock≠some g:=fun e=>by
  rcases hg with hg | hg
  ·exact h.sep g e hg
  ·have:=own_lt h.sink.own g e;omega
 have hwa:AllB wnd:=by
  obtain ⟨⟨pre,e⟩,_⟩:=hsx
  intro b hb
  exact h.all b (by rw [e];exact List.mem_append_right _ hb)
 have hdr:(wnd++x).drop (n - k)=x:=by rw [show n - k=wnd.length from by omega,List.drop_left' rfl]
 have hc:=putOut_any lo w1 D v out ka kc g n c k (wnd++x) ho1 h.low hsk hs1 hown hgl hln.symm (by omega) hk0 h.all (fun b hb=>by rcases List.mem_append.1 hb with hb | hb;exact hwa b hb;exact hall b hb) hsep hfit h.big hsm hn2
 refine hc.mono ?_
 rintro e w2 ⟨rfl,a1,c1,wnd',h1,h2,h3,h4,h5,h6,h7⟩
 rw [hdr] at h2
 have hx':Sfx wnd' (out++x)∧wnd'.length < 98304:=by
  rw [h4]
  split
  ·exact ⟨hsx.app,by omega⟩
  ·refine ⟨hsx.app.cut _ (by omega),?_⟩
   rw [List.length_drop,hln];omega
 have hgr:=h.put hlo hk1 hg h1 h2 h3 rfl hx'.1 hx'.2 h5 h6 h7 (by rw [List.length_append];omega) hall
 exact ⟨rfl,hgr.2,_,_,hgr.1⟩
def PtR (lo:Nat)(w:World)(D:Nat)(v:IV)(m:Md)(out bs:List Int)(S:Nat→Prop)(R:Nat)(ao:Option Addr)(cap p:Nat)(t:Tk)(er:Int)(w':World):Prop:=
 if out.length < t.d.toNat then er=4∧Kept NoB w w'
 else if v.most < (t.put out).length then er=5∧Kept NoB w w'
 else er=0∧Kept (LoB lo) w w'∧∃ sk' wn',InfS lo w' D { v with sk:=sk',wn:=wn' } m (t.put out) bs S R ao cap p
theorem put_lit {lo : Nat} {w : World} {D : Nat} {v : IV} {m : Md} {out bs : List Int} {S : Nat → Prop} {R : Nat} {ao : Option Addr} {cap p : Nat} (h : InfS lo w D v m out bs S R ao cap p) (hlo : lo ≤ w.heap.size) (c : Int) (hc : 0 ≤ c ∧ c < 256) (hsm : out.length ≤ 900000) :
    Calls Tryz.prog 160 #[.pointer (some ⟨D, 0, none⟩), .agg #[.int .i64 0, .int .i64 0, .int .u8 c]] w fun e w' => ∃ er, e = .returned (.int .i64 er) ∧ PtR lo w D v m out bs S R ao cap p ⟨0, 0, c⟩ er w' := by
  obtain ⟨i0, hi, hz0, hz1, hz2⟩ := info_parts info5
  have hk : Kept NoB w (w.alloc (.cells #[.int .i64 0, .int .i64 0, .int .u8 c] 101)) := (Kept.refl _ _).alloc _
  obtain ⟨a0, a1, a2⟩ : (w.alloc (.cells #[.int .i64 0, .int .i64 0, .int .u8 c] 101)).cell? ⟨w.heap.size, 0, none⟩ = some (.int .i64 0) ∧ (w.alloc (.cells #[.int .i64 0, .int .i64 0, .int .u8 c] 101)).cell? ⟨w.heap.size, 1, none⟩ = some (.int .i64 0) ∧ (w.alloc (.cells #[.int .i64 0, .int .i64 0, .int .u8 c] 101)).cell? ⟨w.heap.size, 2, none⟩ = some (.int .u8 c) :=
    ⟨by rw [cell_new 0 rfl]; rfl, by rw [cell_new 1 rfl]; rfl, by rw [cell_new 2 rfl]; rfl⟩
  obtain ⟨wnd, hwn, hsx, hwl⟩ := h.win
  obtain ⟨ka, kc, hsk⟩ := own_shape h.sink.own
  obtain ⟨wa, wc, hwv⟩ := own_shape hwn.own
  obtain ⟨W, hW⟩ : ∃ W, W = w.alloc (.cells #[.int .i64 0, .int .i64 0, .int .u8 c] 101) := ⟨_, rfl⟩
  rw [← hW] at hk a0 a1 a2
  have ho := h.obj.kept hk (fun e => e)
  have c0 := ho.c0
  have c1 := ho.c1
  have c2 := ho.c2
  rw [hsk] at c0
  rw [hwv] at c2
  obtain ⟨q, hq⟩ : ∃ q : Nat, (q : Int) = (v.most : Int) - out.length := ⟨v.most - out.length, by have := h.fit; omega⟩
  have HLen := Hd (fun n => slen_q (W.drewN n) D ka out.length kc c0)
  have HLeft := Hd (fun n => sleft_q (W.drewN n) D ka out.length kc v.most q c0 c1 h.big h.fit hq)
  have hfit := h.fit
  have hbig := h.big
  obtain ⟨N, hN⟩ : ∃ N, N = out.length := ⟨_, rfl⟩
  obtain ⟨Mx, hMx⟩ : ∃ Mx, Mx = v.most := ⟨_, rfl⟩
  have H := Hd h; have HK := Hd hk; have HWn := Hd hwn; have HSx := Hd hsx; have HSk := Hd hsk; have HWv := Hd hwv
  rw [← hN] at hsm hfit hq HLen c0
  rw [← hMx] at hfit hbig hq c1
  clear h hk hwn hsx hsk hwv ho
  go_enter Tryz.func160, Tryz.ntmps160
  have HN := Hd hN; have HMx := Hd hMx
  clear hN hMx
  have hN0 : ¬ (N : Int) < 0 := by omega
  go_upto_region 2 with fail
  rw [← hW]
  have HW := Hd hW; clear hW
  go_quiet ((go_at_call 178; with_reducible exact Calls.quiet_of (HLen.out _)))
  go_wp2_with fail
  refine (HLeft.out _).mono ?_
  rintro e w2 ⟨rfl, k2, rfl⟩
  by_cases hq0 : q = 0
  · subst hq0
    go_wp2
    go_ret
    refine ⟨5, rfl, ?_⟩
    unfold PtR
    rw [if_neg (by simp), if_pos (by rw [put_len, ← HN.out, ← HMx.out]; simp; omega)]
    exact ⟨rfl, HK.out.drewN _⟩
  · have hq1 : ¬ (q : Int) < 1 := by omega
    obtain ⟨W2, hW2⟩ : ∃ W2, W2 = (W.drewN nq).drewN k2 := ⟨_, rfl⟩
    have HK2 : Hid (Kept NoB w W2) := by rw [hW2]; exact (HK.out.drewN _).drewN _
    have HBx : Hid (W2.heap[w.heap.size]? = some (.cells #[.int .i64 0, .int .i64 0, .int .u8 c] 101 (0, 0))) := by rw [hW2]; show W.heap[w.heap.size]? = _; rw [HW.out]; exact heap_alloc_new _ _
    have b0 : W2.cell? ⟨w.heap.size, 0, none⟩ = some (.int .i64 0) := by rw [hW2]; exact a0
    have b2 : W2.cell? ⟨w.heap.size, 2, none⟩ = some (.int .u8 c) := by rw [hW2]; exact a2
    have d2 : W2.cell? ⟨D, 2, none⟩ = some (.slice wa wnd.length wc) := by rw [hW2]; exact c2
    rw [← hW2]
    clear a0 a1 a2 c0 c1 c2 hW2
    have HO2 : Hid (W2.ownsRow 0 5 1 (.slice wa wnd.length wc) wnd.length (wnd.map (.int .u8))) := by
      have := HK2.out.row HWn.out.own (fun _ _ h => h)
      rw [HWv.out] at this; exact this
    obtain ⟨M, hM⟩ : ∃ M, M = wnd.length := ⟨_, rfl⟩
    have HM := Hd hM
    rw [← hM] at d2 HO2 hwl
    clear hM
    go_wp2_with (at_builtin; refine wpList_app _ rfl _ _ 22 rfl 5 i0 (.int .u8 0) 1 1 Tryz.underlying22 hi hz0 hz1 hz2 rfl (by decide) _ M (wnd.map (.int .u8)) rfl ((HO2.out).alloc _) ⟨W2.heap.size, 0, none⟩ 1 1 [.int .u8 c] rfl rfl (cell_one_new _ _ _) ?d2 ?d3 ?d4 ?_)
    case d2 => first | rfl | (intro u hu; simp at hu; subst hu; rfl)
    case d3 => unfold maxLen; omega
    case d4 => omega
    intro v' w3 hown' hgrow hnew
    obtain ⟨ao', cap', rfl⟩ := own_shape hown'
    have HK3 : Hid (Kept (OwnB v.wn) W2 w3) := by
      rw [HWv.out, ← HM.out]
      exact ((Kept.refl _ W2).alloc _).grown hgrow (fun k _ h => h)
    have hbx3 : w3.heap[w.heap.size]? = some (.cells #[.int .i64 0, .int .i64 0, .int .u8 c] 101 (0, 0)) := HK3.out.obj HBx.out (fun e => by have := own_lt HWn.out.own _ e; omega)
    have b0 : w3.cell? ⟨w.heap.size, 0, none⟩ = some (.int .i64 0) := by rw [obj_cell hbx3 0]; rfl
    have HG := Hd hgrow; have HNew := Hd hnew; have HOwn := Hd hown'
    clear hgrow hnew hown' hbx3 b2 d2
    go_wp2_with fail
    go_loopw [6, 39] (fun u i wr => u = .slice ao' (M + 1) cap' ∧ i = .int .i64 0 ∧ wr = w3) (fun _ _ _ => 0)
    case atStart => exact ⟨rfl, rfl, rfl⟩
    case round =>
      obtain ⟨rfl, rfl, rfl⟩ := hrel
      obtain ⟨g, rfl⟩ : ∃ g, ao' = some ⟨g, 0, none⟩ := by
        rcases HOwn.out.2 with ⟨_, hz⟩ | ⟨g, c, cur, hv, _⟩
        · omega
        · simp at hv; exact ⟨g, hv.1⟩
      have hnl : (M + 1 : Nat) = wnd.length + [c].length := by rw [← HM.out]; rfl
      have HP := Hd (H.out.putCalls (k := 1) hlo ((HK2.out.mono (fun _ _ e => e.elim)).trans HK3.out) HWn.out HSx.out (by rw [← HM.out]; exact hwl) (x := [c]) (g := g) (n := M + 1) (c := cap') (by rw [List.map_append]; exact HOwn.out)
        (by rcases HNew.out g rfl with e | e
            · left; rw [HWv.out, ← HM.out]; exact e
            · right; have := HK2.out.size; omega) hnl rfl 1 rfl (Nat.le_refl _) (fun b hb => by simp at hb; subst hb; exact hc) (by rw [← HN.out, ← HMx.out]; omega) (by rw [← HN.out]; omega) (by omega))
      clear hnl
      go_wp2_with fail
      refine HP.out.mono ?_
      rintro e w4 ⟨rfl, hk4, sk', wn', hI⟩
      have HI := Hd hI; have HK4 := Hd hk4
      clear hI hk4
      go_wp2
      go_ret
      refine ⟨0, rfl, ?_⟩
      unfold PtR
      rw [if_neg (by simp), if_neg (by rw [put_len, ← HN.out, ← HMx.out]; simp; omega)]
      exact ⟨rfl, HK4.out, sk', wn', HI.out⟩
theorem bits_drop {bs:List Int}(hall:AllB bs){f k:Nat}{xs r:List Int}(h:bs.drop f=xs++r)(hk:k≤8*xs.length):bitsAt bs (8*f) k=num xs % 2 ^ k:=by
 have:=bitsAt_window bs hall f 0 k xs.length (by omega)
 rw [h,List.take_left'  rfl] at this
 simpa using this.symm
theorem drop_more {bs xs r:List Int}{f:Nat}(h:bs.drop f=xs++r):bs.drop (f+xs.length)=r:=by
 rw [← List.drop_drop,h,List.drop_left' rfl]
theorem bytes_k {bs:List Int}(hall:AllB bs){most:Nat}{last:Bool}:∀ (k q n:Nat) (out:List Int),k≤n→1≤n→q+k≤bs.length→out.length+k≤most→
  Steps bs most (8*q) (.bytes n) last out (8*(q+k)) (if k=n then endM last else .bytes (n - k)) last (out++(bs.drop q).take k)
 | 0,q,n,out,h1,h2,h3,h4=>by
  rw [if_neg (by omega)]
  simpa using Steps.refl
 | k+1,q,n,out,h1,h2,h3,h4=>by
  obtain ⟨x,r,hr⟩:∃ x r,bs.drop q=x :: r:=by
   cases e:bs.drop q with
   | nil=>have:=congrArg List.length e;simp at this;omega
   | cons x r=>exact ⟨x,r,rfl⟩
  have hx:0≤x∧x < 256:=hall x (List.mem_of_mem_drop (by rw [hr];simp))
  have hb:=bits_drop hall (k:=8) (show bs.drop q=[x]++r by simpa using hr) (by simp)
  have hn:num [x] % 2 ^ 8=x.toNat:=by simp only [num];omega
  rw [hn] at hb
  have hd:=drop_more (show bs.drop q=[x]++r by simpa using hr)
  have hi:ItemR bs most (8*q) (.bytes n) last out 0 (8*(q+1)) (if n≤1 then endM last else .bytes (n - 1)) last (out++[x]):=by
   unfold ItemR
   dsimp only
   rw [if_neg (by omega),if_neg (by omega),hb]
   exact ⟨rfl,by omega,rfl,rfl,by rw [Int.toNat_of_nonneg hx.1]⟩
  have ex:(bs.drop q).take (k+1)=x :: (bs.drop (q+1)).take k:=by
   rw [hr,List.take_succ_cons]
   have:bs.drop (q+1)=r:=by simpa using hd
   rw [this]
  by_cases hk:k=0
  ·subst hk
   refine Steps.to (Steps.one ?_) rfl rfl
   rw [ex]
   simp only [List.take_zero]
   by_cases h1':n=1
   ·subst h1'
    simpa using hi
   ·rw [if_neg (by omega)]
    rw [if_neg (by omega)] at hi
    exact hi
  ·rw [if_neg (by omega)] at hi
   have ih:=bytes_k hall (most:=most) (last:=last) k (q+1) (n - 1) (out++[x]) (by omega) (by omega) (by omega) (by rw [List.length_append,List.length_singleton];omega)
   have e1:q+(k+1)=q+1+k:=by omega
   have e2:n - (k+1)=n - 1 - k:=by omega
   have e3:(k+1=n)=(k=n - 1):=by apply propext;omega
   rw [ex,e1,e2]
   simp only [e3]
   refine .step hi ?_
   simpa using ih
def Al (m:Md)(p:Nat):Prop:=∀ n,m = .bytes n→p % 8=0
theorem endM_al (l:Bool)(p:Nat):Al (endM l) p:=by cases l <;> (intro n e;cases e)
theorem ItemR.al {bs:List Int}{most p:Nat}{m:Md}{last:Bool}{out:List Int}{p1:Nat}{m1:Md}{l1:Bool}{o1:List Int}(hm:Al m p)(h:ItemR bs most p m last out 0 p1 m1 l1 o1):Al m1 p1:=by
 cases m with
 | fin=>exact h.elim
 | block=>
  unfold ItemR at h
  simp only at h
  split at h
  ·exact absurd h (by decide)
  ·split at h
   ·obtain ⟨_,rfl,rfl,_⟩:=h;intro n e;cases e
   ·split at h
    ·obtain ⟨_,rfl,rfl,_⟩:=h;intro n e;cases e
    ·split at h
     ·obtain ⟨_,rfl,rfl,_⟩:=h;intro n e;cases e
     ·exact absurd h (by decide)
 | stored=>
  unfold ItemR at h
  simp only at h
  split at h
  ·exact absurd h (by decide)
  ·split at h
   ·exact absurd h (by decide)
   ·obtain ⟨_,rfl,rfl,_⟩:=h
    split
    ·exact endM_al _ _
    ·intro n e;unfold up8;omega
 | bytes n=>
  unfold ItemR at h
  simp only at h
  split at h
  ·exact absurd h (by decide)
  ·split at h
   ·exact absurd h (by decide)
   ·obtain ⟨_,rfl,rfl,_⟩:=h
    split
    ·exact endM_al _ _
    ·intro k e;have:=hm n rfl;omega
 | head=>
  unfold ItemR at h
  simp only at h
  obtain ⟨lit,dist,f,q,hh,h⟩:=h
  split at h
  ·obtain ⟨_,rfl,rfl,_⟩:=h
   intro n e;cases e
  ·rename_i hf
   exact absurd h.symm hf
 | sym lit dist=>
  unfold ItemR at h
  simp only at h
  obtain ⟨s,f,q,hh,h⟩:=h
  split at h
  ·rename_i hf
   exact absurd h.symm hf
  ·split at h
   ·split at h
    ·obtain ⟨_,rfl,rfl,_⟩:=h;intro n e;cases e
    ·exact absurd h (by decide)
   ·split at h
    ·obtain ⟨_,rfl,rfl,_⟩:=h;exact endM_al _ _
    ·split at h
     ·exact absurd h (by decide)
     ·split at h
      ·exact absurd h (by decide)
      ·obtain ⟨d,g,r,hd,h⟩:=h
       split at h
       ·rename_i hg
        exact absurd h.symm hg
       ·split at h
        ·exact absurd h (by decide)
        ·split at h
         ·exact absurd h (by decide)
         ·split at h
          ·exact absurd h (by decide)
          ·split at h
           ·exact absurd h (by decide)
           ·obtain ⟨_,rfl,rfl,_⟩:=h;intro n e;cases e
theorem Steps.al {bs:List Int}{most p p1:Nat}{m m1:Md}{l l1:Bool}{o o1:List Int}(h:Steps bs most p m l o p1 m1 l1 o1)(hm:Al m p):Al m1 p1:=by
 induction h with
 | refl=>exact hm
 | step a _ ih=>exact ih (a.al hm)
theorem left_q (w:World)(R:Nat)(ao:Option Addr)(cap:Nat)(bs:List Int)(p U:Nat)(h:Rdr w R ao cap bs p)(hU:(U:Int)=8*bs.length - p):
  Calls Tryz.prog 125 #[.pointer (some ⟨R,0,none⟩)] w fun e w'=>e = .returned (.int .i64 (U:Int))∧∃ k,w'=w.drewN k:=by
 rw [hU]
 obtain ⟨ho,hr,hl,ha,hb⟩:=h
 have c0:w.cell? ⟨R,0,none⟩=some (.slice ao bs.length cap):=by simpa using obj_cell ho 0
 have c1:w.cell? ⟨R,1,none⟩=some (.int .i64 p):=by simpa using obj_cell ho 1
 clear ho hr hb hU
 go_enter Tryz.func125,Tryz.ntmps125
 go_wp2
 go_quiet (fail)
 go_wp2
 go_ret
 exact ⟨rfl,_,rfl⟩
theorem readBytes_any {lo : Nat} {w : World} {D : Nat} {v : IV} {n : Nat} {out bs : List Int} {S : Nat → Prop} {R : Nat} {ao : Option Addr} {cap p : Nat} (h : InfS lo w D v (.bytes n) out bs S R ao cap p) (hlo : lo ≤ w.heap.size) (hal : p % 8 = 0) (hsm : out.length ≤ 900000) (hbl : bs.length ≤ 1000000) :
    Calls Tryz.prog 129 #[.pointer (some ⟨D, 0, none⟩), .pointer (some ⟨R, 0, none⟩)] w fun e w' => ∃ er, e = .returned (.int .i64 er) ∧ ItemW lo w D v (.bytes n) out bs R ao cap p er w' := by
  obtain ⟨i0, hi, hz0, hz1, hz2⟩ := info_parts info5
  obtain ⟨hlf, hn1, hn2⟩ := h.mode
  have hpl := h.rd.2.2.2.1
  have c8 := h.obj.c8
  rw [hlf] at c8
  obtain ⟨U, hU⟩ : ∃ U : Nat, (U : Int) = 8 * bs.length - p := ⟨8 * bs.length - p, by omega⟩
  have HL := Hd (fun k => left_q (w.drewN k) R ao cap bs p U (h.rd.keptNo ((Kept.refl NoB w).drewN k)) hU)
  obtain ⟨qb, hqb⟩ : ∃ qb, p = 8 * qb := ⟨p / 8, by omega⟩
  obtain ⟨J, hJ⟩ : ∃ J, J = bs.length - qb := ⟨_, rfl⟩
  have hUJ : (U : Int) / 8 = (J : Int) := by omega
  have hUb : (U : Int) ≤ 8000000 := by omega
  obtain ⟨T, hT⟩ : ∃ T, T = min n J := ⟨_, rfl⟩
  have hmin : (if (J : Int) < (n : Int) then (J : Int) else (n : Int)) = (T : Int) := by
    rw [hT]; split <;> omega
  have hU8 : ¬ (U : Int) < 0 := by omega
  have H := Hd h
  have HJ := Hd hJ; have HT := Hd hT; have HQ := Hd hqb; have HLf := Hd hlf; have HU := Hd hU
  clear h hJ hT hqb hlf hU
  go_enter Tryz.func129, Tryz.ntmps129
  go_upto_region 1 with fail
  go_cut [5] from 9 to 16 (fun s wx => s = .int .i64 (T : Int) ∧ ∃ k, wx = w.drewN k)
  case first =>
    go_quiet ((go_at_call 125; with_reducible exact Calls.quiet_of (HL.out _)))
    go_wp2
    all_goals go_meet
    all_goals exact ⟨by have := HT.out; congr 1; omega, _, rfl⟩
  case rest =>
    obtain ⟨rfl, k0, hw⟩ := hcut
    have hkc : Kept NoB w wc := by rw [hw]; exact (Kept.refl _ _).drewN _
    have HKc := Hd hkc
    clear hmin hUJ hUb hU8 c8 hw hkc
    by_cases h0 : T = 0
    · subst h0
      go_wp2
      go_ret
      refine ⟨2, rfl, H.out.fails hlo HKc.out (fun _ e => e.elim) (H.out.rd.keptNo HKc.out) 2 (by decide) ⟨0, .fin, false, [], ?_⟩⟩
      unfold ItemR
      dsimp only
      rw [if_pos (by have := HT.out; have := HJ.out; have := HQ.out; omega)]
    · have g0 : ((T : Int) == 0) = false := by simpa using h0
      have ho := H.out.obj.kept HKc.out (fun e => e)
      have c0 := ho.c0
      have c1 := ho.c1
      obtain ⟨ka, kc, hsk⟩ := own_shape H.out.sink.own
      rw [hsk] at c0
      have hfit := H.out.fit
      have hbig := H.out.big
      obtain ⟨q, hq⟩ : ∃ q : Nat, (q : Int) = (v.most : Int) - out.length := ⟨v.most - out.length, by omega⟩
      have HSl := Hd (sleft_q wc D ka out.length kc v.most q c0 c1 hbig hfit hq)
      have HO := Hd ho
      clear ho c0 c1
      obtain ⟨K, hK⟩ : ∃ K, K = min T q := ⟨_, rfl⟩
      have hmn : (if (q : Int) < (T : Int) then (q : Int) else (T : Int)) = (K : Int) := by rw [hK]; split <;> omega
      have HK := Hd hK; have HQq := Hd hq
      clear hK hq
      go_upto_region 4 with fail
      go_cut [6] from 19 to 24 (fun s wx => s = .int .i64 (K : Int) ∧ ∃ k, wx = wc.drewN k)
      case first =>
        go_wp2_with fail
        refine HSl.out.mono ?_
        rintro e w2 ⟨rfl, k2, rfl⟩
        go_wp2
        all_goals go_meet
        all_goals exact ⟨by have := HK.out; congr 1; omega, _, rfl⟩
      case rest =>
        obtain ⟨rfl, k2, hw2⟩ := hcut
        have hkd : Kept NoB w wc := by rw [hw2]; exact HKc.out.drewN _
        have HKd := Hd hkd
        clear hw2 hkd hmn
        by_cases hK0 : K = 0
        · subst hK0
          go_wp2
          go_ret
          refine ⟨5, rfl, H.out.fails hlo HKd.out (fun _ e => e.elim) (H.out.rd.keptNo HKd.out) 5 (by decide) ⟨0, .fin, false, [], ?_⟩⟩
          unfold ItemR
          dsimp only
          have h1 := HT.out; have h2 := HJ.out; have h3 := HQ.out; have h4 := HK.out; have h5 := HQq.out
          rw [if_neg (by omega), if_pos (by omega)]
        · have gK : ((K : Int) == 0) = false := by simpa using hK0
          have h1 := HT.out; have h2 := HJ.out; have h3 := HQ.out; have h4 := HK.out; have h5 := HQq.out
          have hrdD := H.out.rd.keptNo HKd.out
          have hup : up8 p = p := by unfold up8; omega
          have HBy := Hd (bytes_yes wc R ao cap bs p K hrdD (by omega) (by rw [hup]; omega))
          rw [hup] at HBy
          obtain ⟨xs, hxs⟩ : ∃ xs, xs = (bs.drop (p / 8)).take K := ⟨_, rfl⟩
          have hxl : xs.length = K := by rw [hxs, List.length_take, List.length_drop]; omega
          have hxa : AllB xs := by rw [hxs]; exact AllB.take (AllB.drop H.out.rd.2.2.2.2 _) _
          have HXs := Hd hxs; have HXl := Hd hxl; have HXa := Hd hxa
          rw [← hxs] at HBy
          have hKb : K ≤ 65535 := by omega
          have hJb : K ≤ n := by omega
          have HAll := Hd (show p = 8 * qb ∧ qb + K ≤ bs.length ∧ out.length + K ≤ v.most from by omega)
          clear h1 h2 h3 h4 h5 hrdD hup hxs hxl hxa
          go_wp2_with fail
          refine HBy.out.mono ?_
          rintro e w2 ⟨ba, bc, rfl, _, hrx, _, hr2, hk2⟩
          have HRx := Hd hrx; have HR2 := Hd hr2; have HK2 := Hd hk2
          clear hrx hr2 hk2 HBy
          rw [HXl.out]
          have HI2 := Hd ((H.out.moved hlo HKd.out (fun _ e => e.elim) (H.out.rd.keptNo HKd.out)).moved (Nat.le_trans hlo HKd.out.size) HK2.out (fun _ e => e) HR2.out)
          have hlo2 : lo ≤ w2.heap.size := by have := HKd.out.size; have := HK2.out.size; omega
          obtain ⟨wnd, hwn, hsx, hwl⟩ := HI2.out.win
          obtain ⟨wa, wk, hwv⟩ := own_shape hwn.own
          have d2 := HI2.out.obj.c2
          rw [hwv] at d2
          have HO2 : Hid (w2.ownsRow 0 5 1 (.slice wa wnd.length wk) wnd.length (wnd.map (.int .u8))) := by
            have := hwn.own
            rw [hwv] at this; exact this
          obtain ⟨M, hM⟩ : ∃ M, M = wnd.length := ⟨_, rfl⟩
          have HWn := Hd hwn; have HSx := Hd hsx; have HWv := Hd hwv; have HM := Hd hM
          rw [← hM] at d2 HO2 hwl
          obtain ⟨ad, rfl⟩ : ∃ ad, ba = some ad := by
            cases ba with
            | none => have := HRx.out.1 rfl; have := HXl.out; rw [HRx.out.1 rfl] at this; simp at this; omega
            | some ad => exact ⟨ad, rfl⟩
          have HNw := Hd (reads_news HRx.out)
          clear hwn hsx hwv hM
          go_wp2_with (at_builtin; refine wpList_app _ rfl _ _ 22 rfl 5 i0 (.int .u8 0) 1 1 Tryz.underlying22 hi hz0 hz1 hz2 rfl (by decide) _ M (wnd.map (.int .u8)) rfl HO2.out ad K bc (xs.map (.int .u8)) rfl (by rw [List.length_map, HXl.out]; omega) HNw.out ?d2 ?d3 ?d4 ?_)
          case d2 => exact news_one xs
          case d3 => unfold maxLen; omega
          case d4 => omega
          intro v' w3 hown' hgrow hnew
          obtain ⟨ao', cap', rfl⟩ := own_shape hown'
          have HK3 : Hid (Kept (OwnB v.wn) w2 w3) := by
            rw [HWv.out, ← HM.out]
            exact (Kept.refl _ w2).grown hgrow (fun k _ h => h)
          obtain ⟨g, rfl⟩ : ∃ g, ao' = some ⟨g, 0, none⟩ := by
            rcases hown'.2 with ⟨_, hz⟩ | ⟨g, c, cur, hv, _⟩
            · omega
            · simp at hv; exact ⟨g, hv.1⟩
          have HPo := Hd (HI2.out.putCalls (k := K) hlo2 HK3.out HWn.out HSx.out (by rw [← HM.out]; exact hwl) (x := xs) (g := g) (n := M + K) (c := cap') (by rw [List.map_append]; exact hown')
            (by rcases hnew g rfl with e | e
                · left; rw [HWv.out, ← HM.out]; exact e
                · right; omega) (by rw [HXl.out, ← HM.out]) HXl.out (K : Int) rfl (by omega) HXa.out HAll.out.2.2 (by omega) (by omega))
          clear hown' hgrow hnew d2
          go_wp2_with fail
          refine HPo.out.mono ?_
          rintro e w4 ⟨rfl, hk4, sk', wn', hI4⟩
          have d8 := hI4.obj.c8
          have f8 := hI4.obj.free 8
          simp only [HLf.out] at d8
          have ho5 := hI4.obj.setLf (((n - K : Nat) : Int))
          obtain ⟨w5, hw5⟩ : ∃ w5, w5 = w4.setCell ⟨D, 8, none⟩ (.int .i64 ((n - K : Nat) : Int)) := ⟨_, rfl⟩
          have hk5 : Kept (OneB D) w4 w5 := by rw [hw5]; exact Kept.setCell (S := OneB D) (p := ⟨D, 8, none⟩) (Kept.refl _ w4) (.inl rfl) _
          rw [← hw5] at ho5
          have d8' := ho5.c8
          simp only at d8'
          have HI4 := Hd hI4; have HK4 := Hd hk4; have HO5 := Hd ho5; have HW5 := Hd hw5; have HK5 := Hd hk5
          have hlo4 : lo ≤ w4.heap.size := by have := hk4.size; omega
          have hnk : (n : Int) - (K : Int) = ((n - K : Nat) : Int) := by omega
          clear hI4 hk4 ho5 hw5 hk5 HPo
          have HAllK : Hid (Kept (LoB lo) w w4) := Hd (((HKd.out.mono (fun _ _ e => e.elim)).trans (HK2.out.mono (fun k _ e => by unfold OneB at e; subst e; exact H.out.lowR))).trans HK4.out)
          obtain ⟨z, hz⟩ : ∃ z, z = n - K := ⟨_, rfl⟩
          rw [← hz] at hnk d8' HW5 HO5
          have HZ := Hd hz
          clear hz
          go_upto_region 10 with fail
          rw [← HW5.out]
          have hst : Steps bs v.most p (.bytes n) v.la out (p + 8 * K) (if K = n then endM v.la else .bytes (n - K)) v.la (out ++ xs) := by
            obtain ⟨b1, b2, b3⟩ := HAll.out
            have := bytes_k (most := v.most) (last := v.la) (out := out) H.out.rd.2.2.2.2 K qb n hJb hn1 b2 b3
            have e1 : p / 8 = qb := by omega
            rw [HXs.out, e1]
            exact this.to (by omega) (by omega)
          have HSt := Hd hst
          have hpk : p < p + 8 * K := by omega
          have hKr : Kept (OneB R) w4 w4 := Kept.refl _ _
          clear hst
          by_cases hz0 : z = 0
          · subst hz0
            have HE := Hd (endBlock_any w5 D _ HO5.out)
            go_wp2_with fail
            refine HE.out.mono ?_
            rintro e w6 ⟨rfl, ho6, hk6⟩
            have HO6 := Hd ho6; have HK6 := Hd hk6
            clear ho6 hk6 HE
            go_wp2
            go_ret
            have hT := HI4.out.turn hlo4 hKr HI4.out.rd (HK5.out.trans HK6.out) HO6.out rfl rfl rfl rfl (m' := endM v.la) (endM_nx _).symm HI4.out.er (fun _ e => e) (fun _ e => .inl e) (by cases hla : v.la <;> trivial) (HI4.out.fixAt hKr (HK5.out.trans HK6.out) rfl rfl)
            refine ⟨0, rfl, HAllK.out.trans hT.2, _, _, _, _, _, hT.1, rfl, rfl, rfl, ⟨rfl, rfl, rfl⟩, ?_⟩
            rw [if_pos rfl]
            have hst := HSt.out
            rw [if_pos (by have := HZ.out; omega)] at hst
            exact ⟨hst, hpk⟩
          · have e8 : ((z : Int) == 0) = false := by simpa using hz0
            go_wp2
            go_ret
            have hz1 := HZ.out
            have hT := HI4.out.turn hlo4 hKr HI4.out.rd HK5.out HO5.out rfl rfl rfl rfl (m' := .bytes z) HI4.out.nx HI4.out.er (fun _ e => e) (fun _ e => .inl e) ⟨rfl, by omega, by omega⟩ (HI4.out.fixAt hKr HK5.out rfl rfl)
            refine ⟨0, rfl, HAllK.out.trans hT.2, _, _, _, _, _, hT.1, rfl, rfl, rfl, ⟨rfl, rfl, rfl⟩, ?_⟩
            rw [if_pos rfl]
            have hst := HSt.out
            rw [if_neg (by omega), ← hz1] at hst
            exact ⟨hst, hpk⟩
theorem put_copy {lo : Nat} {w : World} {D : Nat} {v : IV} {m : Md} {out bs : List Int} {S : Nat → Prop} {R : Nat} {ao : Option Addr} {cap p : Nat} (h : InfS lo w D v m out bs S R ao cap p) (hlo : lo ≤ w.heap.size) (L Dd : Nat) (hL : 3 ≤ L ∧ L ≤ 258) (hDd : 1 ≤ Dd ∧ Dd ≤ 32768) (hsm : out.length ≤ 900000) :
    Calls Tryz.prog 160 #[.pointer (some ⟨D, 0, none⟩), .agg #[.int .i64 (L : Int), .int .i64 (Dd : Int), .int .u8 0]] w fun e w' => ∃ er, e = .returned (.int .i64 er) ∧ PtR lo w D v m out bs S R ao cap p ⟨(L : Int), (Dd : Int), 0⟩ er w' := by
  obtain ⟨i0, hi, hz0, hz1, hz2⟩ := info_parts info5
  have hk : Kept NoB w (w.alloc (.cells #[.int .i64 (L : Int), .int .i64 (Dd : Int), .int .u8 0] 101)) := (Kept.refl _ _).alloc _
  have hload : ∀ W : World, W.heap[w.heap.size]? = some (.cells #[.int .i64 (L : Int), .int .i64 (Dd : Int), .int .u8 0] 101 (0, 0)) → W.cell? ⟨w.heap.size, 0, none⟩ = some (.int .i64 (L : Int)) ∧ W.cell? ⟨w.heap.size, 1, none⟩ = some (.int .i64 (Dd : Int)) ∧ W.cell? ⟨w.heap.size, 2, none⟩ = some (.int .u8 0) := fun W hk =>
    ⟨by rw [obj_cell hk 0]; rfl, by rw [obj_cell hk 1]; rfl, by rw [obj_cell hk 2]; rfl⟩
  obtain ⟨a0, a1, a2⟩ := hload _ (heap_alloc_new w _)
  have HLoad := Hd hload; clear hload
  obtain ⟨wnd, hwn, hsx, hwl⟩ := h.win
  obtain ⟨ka, kc, hsk⟩ := own_shape h.sink.own
  obtain ⟨wa, wc, hwv⟩ := own_shape hwn.own
  obtain ⟨W, hW⟩ : ∃ W, W = w.alloc (.cells #[.int .i64 (L : Int), .int .i64 (Dd : Int), .int .u8 0] 101) := ⟨_, rfl⟩
  rw [← hW] at hk a0 a1 a2
  have ho := h.obj.kept hk (fun e => e)
  have c0 := ho.c0
  have c1 := ho.c1
  have c2 := ho.c2
  rw [hsk] at c0
  rw [hwv] at c2
  obtain ⟨q, hq⟩ : ∃ q : Nat, (q : Int) = (v.most : Int) - out.length := ⟨v.most - out.length, by have := h.fit; omega⟩
  have HLen := Hd (fun n => slen_q (W.drewN n) D ka out.length kc c0)
  have HLeft := Hd (fun n => sleft_q (W.drewN n) D ka out.length kc v.most q c0 c1 h.big h.fit hq)
  have hfit := h.fit
  have hbig := h.big
  obtain ⟨N, hN⟩ : ∃ N, N = out.length := ⟨_, rfl⟩
  obtain ⟨Mx, hMx⟩ : ∃ Mx, Mx = v.most := ⟨_, rfl⟩
  have H := Hd h; have HK := Hd hk; have HWn := Hd hwn; have HSx := Hd hsx; have HSk := Hd hsk; have HWv := Hd hwv
  rw [← hN] at hsm hfit hq HLen c0
  rw [← hMx] at hfit hbig hq c1
  clear h hk hwn hsx hsk hwv ho
  have HN := Hd hN; have HMx := Hd hMx
  obtain ⟨hL1, hL2⟩ := hL
  obtain ⟨hD1, hD2⟩ := hDd
  have hpl : (Tk.put ⟨(L : Int), (Dd : Int), 0⟩ out).length = N + L := by
    rw [put_len, hN]
    simp only
    rw [if_neg (by omega)]; simp
  have HPl := Hd hpl
  clear hN hMx hpl
  go_enter Tryz.func160, Tryz.ntmps160
  have hmx : (if (L : Int) < 1 then (1 : Int) else (L : Int)) = (L : Int) := by rw [if_neg (by omega)]
  have hL0 : ¬ (L : Int) < 1 := by omega
  by_cases hdd : N < Dd
  · have hdd' : (N : Int) < (Dd : Int) := by omega
    go_upto_region 2 with fail
    rw [← hW]
    have HW := Hd hW; clear hW
    go_quiet ((go_at_call 178; with_reducible exact Calls.quiet_of (HLen.out _)))
    go_wp2
    go_ret
    refine ⟨4, rfl, ?_⟩
    unfold PtR
    rw [if_pos (by rw [← HN.out]; simpa using hdd)]
    exact ⟨rfl, HK.out.drewN _⟩
  · have hdd' : ¬ (N : Int) < (Dd : Int) := by omega
    go_upto_region 2 with fail
    rw [← hW]
    have HW := Hd hW; clear hW
    go_quiet ((go_at_call 178; with_reducible exact Calls.quiet_of (HLen.out _)))
    go_wp2_with fail
    refine (HLeft.out _).mono ?_
    rintro e w2 ⟨rfl, k2, rfl⟩
    by_cases hq0 : q < L
    · have hq0' : (q : Int) < (L : Int) := by omega
      go_wp2
      go_ret
      refine ⟨5, rfl, ?_⟩
      unfold PtR
      rw [if_neg (by rw [← HN.out]; simpa using hdd), if_pos (by rw [HPl.out, ← HMx.out]; omega)]
      exact ⟨rfl, HK.out.drewN _⟩
    · have hq1 : ¬ (q : Int) < (L : Int) := by omega
      obtain ⟨W2, hW2⟩ : ∃ W2, W2 = (W.drewN nq).drewN k2 := ⟨_, rfl⟩
      have HK2 : Hid (Kept NoB w W2) := by rw [hW2]; exact (HK.out.drewN _).drewN _
      have HBx : Hid (W2.heap[w.heap.size]? = some (.cells #[.int .i64 (L : Int), .int .i64 (Dd : Int), .int .u8 0] 101 (0, 0))) := by rw [hW2]; show W.heap[w.heap.size]? = _; rw [HW.out]; exact heap_alloc_new _ _
      have b0 : W2.cell? ⟨w.heap.size, 0, none⟩ = some (.int .i64 (L : Int)) := by rw [hW2]; exact a0
      have d2 : W2.cell? ⟨D, 2, none⟩ = some (.slice wa wnd.length wc) := by rw [hW2]; exact c2
      rw [← hW2]
      clear a0 a1 a2 c0 c1 c2 hW2
      have HO2 : Hid (W2.ownsRow 0 5 1 (.slice wa wnd.length wc) wnd.length (wnd.map (.int .u8))) := by
        have := HK2.out.row HWn.out.own (fun _ _ h => h)
        rw [HWv.out] at this; exact this
      have hdw : Dd ≤ wnd.length := by
        rcases HSx.out.2 with e | e
        · rw [e, ← HN.out]; omega
        · omega
      have hLz : ((L : Int) == 0) = false := by simp; omega
      have hlnF := Hd (fun j => copyN_len Dd j wnd)
      obtain ⟨Wl, hWl⟩ : ∃ Wl, Wl = wnd.length := ⟨_, rfl⟩
      have hwl2 : Wl < 98304 := by rw [hWl]; exact hwl
      have hdw2 : Dd ≤ Wl := by rw [hWl]; exact hdw
      have HWl := Hd hWl; have HHwl := Hd hwl
      clear hwl hdw
      rw [← hWl] at d2
      clear hWl
      go_wp2_with fail
      go_loopw [6, 39] (fun u i wr => ∃ (j : Nat) (ao' : Option Addr) (cap' : Nat), j ≤ L ∧ i = .int .i64 j ∧ u = .slice ao' (Wl + j) cap' ∧ Hid (wr.ownsRow 0 5 1 (.slice ao' (Wl + j) cap') (Wl + j) ((copyN Dd j wnd).map (.int .u8))) ∧
        Hid (Kept (OwnB v.wn) W2 wr) ∧ Hid (∀ k, (Value.slice ao' (Wl + j) cap').ownBlock = some k → v.wn.ownBlock = some k ∨ W2.heap.size ≤ k)) (fun _ i _ => L - (intOf i).toNat)
      case atStart => exact ⟨0, wa, wc, by omega, rfl, rfl, by rw [HWl.out]; exact HO2.out, Kept.refl _ _, fun k hk => .inl (by rw [HWv.out, ← HWl.out]; exact hk)⟩
      case round =>
        obtain ⟨j, ao', cap', hj, rfl, rfl, HOwn, HKr, HNw⟩ := hrel
        by_cases hlt : (j : Int) < L
        · obtain ⟨g, rfl⟩ : ∃ g, ao' = some ⟨g, 0, none⟩ := by
            rcases HOwn.out.2 with ⟨_, hz⟩ | ⟨g, c, cur, hv, _⟩
            · omega
            · simp at hv; exact ⟨g, hv.1⟩
          obtain ⟨xs, hxs⟩ : ∃ xs, xs = copyN Dd j wnd := ⟨_, rfl⟩
          have hlen : xs.length = Wl + j := by rw [hxs, hlnF.out, HWl.out]
          obtain ⟨q', hq'⟩ : ∃ q', q' = Wl + j - Dd := ⟨_, rfl⟩
          have hsub : ((Wl + j : Nat) : Int) - (Dd : Int) = (q' : Int) := by omega
          have hsub2 : (Wl : Int) + (j : Int) - (Dd : Int) = (q' : Int) := by omega
          have hql : q' < Wl + j := by omega
          have hqw : IntKind.i64.wrap (q' : Int) = q' := IntWalk.i64_in _ (by omega)
          have hcz : wr.cell? ⟨g, q', none⟩ = some (.int .u8 (xs.getD q' 0)) := by
            have := HOwn.out.cellAt q' (by omega)
            rw [this, ← hxs]; simp [List.getD, show q' < xs.length by omega]
          have hsucc : copyN Dd (j + 1) wnd = xs ++ [xs.getD q' 0] := by rw [hxs]; show _ ++ [_] = _; rw [← hxs, hlen, hq']
          have hbx : wr.heap[w.heap.size]? = _ := HKr.out.obj HBx.out (fun e => by have := own_lt HWn.out.own _ e; omega)
          obtain ⟨a0', a1', a2'⟩ := HLoad.out wr hbx
          have HS := Hd hsucc
          rw [← hxs] at HOwn
          generalize hz : xs.getD q' 0 = z at hcz HS
          have HHl := Hd hlen
          clear hz hq' hsucc hxs hbx b0 hlen
          have hwj : Wl + j ≤ 100000 := by omega
          obtain ⟨n, hn'⟩ : ∃ n, n = Wl + j := ⟨_, rfl⟩
          rw [← hn'] at hsub hql hwj HOwn HNw ⊢
          have hsub3 : (n : Int) - (Dd : Int) = (q' : Int) := by omega
          have HN' := Hd hn'
          clear hn' hsub hsub2
          go_wp2_with (at_builtin; refine wpList_app _ rfl _ _ 22 rfl 5 i0 (.int .u8 0) 1 1 Tryz.underlying22 hi hz0 hz1 hz2 rfl (by decide) _ n (xs.map (.int .u8)) rfl (HOwn.out.alloc _) ⟨wr.heap.size, 0, none⟩ 1 1 [.int .u8 z] rfl rfl (cell_one_new _ _ _) ?d2 ?d3 ?d4 ?_)
          case d2 => first | rfl | (intro u hu; simp at hu; subst hu; rfl)
          case d3 => unfold maxLen; omega
          case d4 => omega
          intro v' w3 hown' hgrow hnew
          obtain ⟨ao2, cap2, rfl⟩ := own_shape hown'
          have HG := Hd hgrow; have HNew := Hd hnew; have HOwn2 := Hd hown'
          clear hgrow hnew hown'
          go_wp2
          go_roundw
          case rel =>
            have e : Wl + (j + 1) = n + 1 := by rw [HN'.out]; omega
            refine ⟨j + 1, ao2, cap2, by omega, by go_num, by rw [e], ?_, ?_, ?_⟩
            · rw [e, HS.out, List.map_append]; exact HOwn2.out
            · exact ((HKr.out).alloc _).grown HG.out (fun k hk e2 => by
                rcases HNw.out k e2 with e3 | e3
                · exact e3
                · omega)
            · rw [e]
              intro k hk
              rcases HNew.out k hk with e2 | e2
              · exact HNw.out k e2
              · right
                have h2 := HKr.out.size
                omega
          case measure => simp [intOf]; omega
        · have hjl : j = L := by omega
          subst hjl
          obtain ⟨x, hx, hxl⟩ := copyN_ex Dd j wnd
          have hcp : copyN Dd j out = out ++ x := by
            obtain ⟨⟨pre, e⟩, _⟩ := HSx.out
            rw [e, copyN_app Dd j pre wnd hD1 (by rw [← HWl.out]; exact hdw2), hx, List.append_assoc]
          have hput : Tk.put ⟨(j : Int), (Dd : Int), 0⟩ out = out ++ x := by
            unfold Tk.put
            rw [if_neg (by simp only; omega)]
            simpa using hcp
          obtain ⟨g, rfl⟩ : ∃ g, ao' = some ⟨g, 0, none⟩ := by
            rcases HOwn.out.2 with ⟨_, hz⟩ | ⟨g, c, cur, hv, _⟩
            · omega
            · simp at hv; exact ⟨g, hv.1⟩
          have hxa : AllB x := by
            have h0 := copyN_all Dd j out H.out.all
            rw [hcp] at h0
            exact fun b hb => h0 b (List.mem_append_right _ hb)
          have HP := Hd (H.out.putCalls (k := j) hlo ((HK2.out.mono (fun _ _ e => e.elim)).trans HKr.out) HWn.out HSx.out HHwl.out (x := x) (g := g) (n := Wl + j) (c := cap') (by rw [← hx]; exact HOwn.out)
            (by rcases HNw.out g rfl with e | e
                · exact .inl e
                · right; have := HK2.out.size; omega) (by rw [hxl, HWl.out]) hxl (j : Int) rfl (by omega) hxa (by rw [← HN.out, ← HMx.out]; omega) (by rw [← HN.out]; omega) (by omega))
          have HPt := Hd hput
          clear hx hxl hcp hput hxa
          go_wp2_with fail
          refine HP.out.mono ?_
          rintro e w4 ⟨rfl, hk4, sk', wn', hI⟩
          have HI := Hd hI; have HK4 := Hd hk4
          clear hI hk4
          go_wp2
          go_ret
          refine ⟨0, rfl, ?_⟩
          unfold PtR
          rw [if_neg (by rw [← HN.out]; simpa using hdd), if_neg (by rw [HPl.out, ← HMx.out]; omega), HPt.out]
          exact ⟨rfl, HK4.out, sk', wn', HI.out⟩
end Go.Proofs.YtfmjfgmbjdhogaaGreatDoor
