import Derived.Test.YtfmjfgmbjdhogaaGreatDoorMb5
import Derived.BigRegion
set_option linter.unusedVariables false
set_option linter.unusedSimpArgs false
set_option maxRecDepth 20000
set_option maxHeartbeats 8000000
namespace Go.Proofs.YtfmjfgmbjdhogaaGreatDoor
open Go.RowKit
theorem infoRw:(Tryz.prog.info? 241).map (fun i=>(i.zero,i.size,i.bytes))=some (some (.slice none 0 0),1,24):=by kernel_rfl
theorem own_cap2 {w:World}{base e s n cap:Nat}{ao:Option Addr}{xs:List Value}(h:w.ownsRow base e s (.slice ao n cap) n xs):n≤cap∧cap≤maxLen:=by
 rcases h.2 with ⟨hv,hn⟩ | ⟨g,c,cur,hv,_,_,h1,h2,_⟩
 ·simp at hv;obtain ⟨_,rfl,rfl⟩:=hv;exact ⟨Nat.le_refl _,Nat.zero_le _⟩
 ·simp at hv;obtain ⟨_,rfl⟩:=hv;exact ⟨h1,h2⟩
theorem own_some {w:World}{base e s n cap:Nat}{ao:Option Addr}{xs:List Value}(h:w.ownsRow base e s (.slice ao n cap) n xs)(hn:0 < n):∃ g,ao=some ⟨g,0,none⟩:=by
 rcases h.2 with ⟨hv,hn'⟩ | ⟨g,c,cur,hv,_,_,h1,h2,_⟩
 ·omega
 ·simp at hv;exact ⟨g,hv.1⟩
theorem Kept.trans' {S:Nat→Prop}{a b c:World}(h:Kept NoB a b)(k:Kept S b c)(hs:∀ i,i < a.heap.size→S i→False):Kept NoB a c:=
 ⟨k.os.trans h.os,k.tape.trans h.tape,k.output.trans h.output,Nat.le_trans h.size k.size,fun i hi _=>(k.block i (Nat.lt_of_lt_of_le hi h.size) (fun e=>hs i hi e)).trans (h.block i hi (fun e=>e))⟩
structure RowsAt (w:World)(ls:List Int)(G limit j:Nat)(xs:List Value):Prop where
 own:w.ownsRow 0 241 1 (.slice (some ⟨G,0,none⟩) limit limit) limit xs
 rows:∀ t,t < j→∃ a c,xs[t]?=some (.slice a (rowS ls t).length c)∧OwnIt w a c (rowS ls t)∧(∀ k,(Value.slice a (rowS ls t).length c).ownBlock=some k→G < k)
theorem RowsAt.kept {S : Nat → Prop} {w w' : World} {ls : List Int} {G limit j : Nat} {xs : List Value} (h : RowsAt w ls G limit j xs) (hk : Kept S w w') (hs : ∀ k, G ≤ k → ¬ S k) : RowsAt w' ls G limit j xs :=
  ⟨hk.row h.own (fun k e => by simp [Value.ownBlock] at e; subst e; exact hs _ (Nat.le_refl _)),
   fun t ht => by
    obtain ⟨a, c, h1, h2, h3⟩ := h.rows t ht
    exact ⟨a, c, h1, hk.row h2 (fun k e => hs k (Nat.le_of_lt (h3 k e))), h3⟩⟩
theorem RowsAt.put {w1 w2:World}{ls:List Int}{G limit j:Nat}{xs:List Value}{a:Option Addr}{c:Nat}(h:RowsAt w1 ls G limit j xs)(hr:RowSt w1 w2 a c (rowS ls j))(hj:j < limit)(hG:G < w1.heap.size):
  RowsAt (w2.setCell ⟨G,j,none⟩ (.slice a (rowS ls j).length c)) ls G limit (j+1) (xs.set j (.slice a (rowS ls j).length c))∧Kept (fun k=>k=G) w1 (w2.setCell ⟨G,j,none⟩ (.slice a (rowS ls j).length c)):=by
 have h2:=h.kept hr.kept (fun _ _ h=>h)
 obtain ⟨s1,s2⟩:=h2.own.stored j (.slice a (rowS ls j).length c)
 have hk2:Kept (fun k=>k=G) w2 (w2.setCell ⟨G,j,none⟩ (.slice a (rowS ls j).length c)):=(Kept.refl _ w2).grown s2 (fun k _ e=>(Option.some.inj e).symm)
 have hlen:j < xs.length:=by have:=h.own.1;omega
 refine ⟨⟨s1,?_⟩,(hr.kept.mono (fun _ _ h=>h.elim)).trans hk2⟩
 intro t ht
 by_cases e:t=j
 ·subst e
  refine ⟨a,c,by rw [List.getElem?_set_self hlen],hk2.row hr.own (fun k e hk=>?_),fun k e=>?_⟩
  ·have:=hr.fresh k e;omega
  ·have:=hr.fresh k e;omega
 ·obtain ⟨a',c',h1,h3,h4⟩:=h2.rows t (by omega)
  exact ⟨a',c',by rw [List.getElem?_set_ne (by omega)];exact h1,hk2.row h3 (fun k e hk=>by have:=h4 k e;omega),h4⟩
theorem packed_step (rs:List (Int × Bool))(e:Nat)(h:e < rs.length):packedN (rs.take (e+1))=packedN (rs.take e)+(if (rs.getD e (0,false)).2 then 1 else 0):=by
 have hg:rs.getD e (0,false)=rs[e]:=by simp [List.getD,h]
 unfold packedN
 rw [List.take_succ_eq_append_getElem h,List.countP_append,hg]
 simp [List.countP_cons]
theorem place_at (lv:List (Int × Int))(ps:List Nat)(h:lv.map (·.1)=ps.map (fun p:Nat=>(p:Int)))(e:Nat)(he:e < lv.length):(lv.getD e (0,0)).1=((ps.getD e 0:Nat):Int)∧ps.getD e 0∈ps∧ps.take (e+1)=ps.take e++[ps.getD e 0]:=by
 have hl:ps.length=lv.length:=by have:=congrArg List.length h;simp at this;exact this.symm
 have he':e < ps.length:=by omega
 have h1:(lv.map (·.1))[e]?=(ps.map (fun p:Nat=>(p:Int)))[e]?:=by rw [h]
 have hg:ps.getD e 0=ps[e]:=by simp [List.getD,he']
 refine ⟨?_,?_,?_⟩
 ·simpa [List.getD,he,he'] using h1
 ·rw [hg];exact List.getElem_mem he'
 ·rw [List.take_succ_eq_append_getElem he',hg]
theorem addL_calls (lo:Option Addr)(lc gz B:Nat)(zs:List Int)(lv:List (Int × Int))(ls:List Int)(ps:List Nat)(limit:Nat)(w:World)
  (hls:ls=lv.map (·.2)) (hps:lv.map (·.1)=ps.map (fun p:Nat=>(p:Int))) (hz:w.ownsRow 0 3 1 (.slice (some ⟨gz,0,none⟩) zs.length zs.length) zs.length (zs.map (.int .i64)))
  (hl:RdLf w B lo lv) (hB:B≤gz) (hsm:SmallL lv) (h2:2≤lv.length) (hll:lv.length≤1000) (hlm:lv.length≤2 ^ limit) (hlim:1≤limit∧limit≤15) (hlc:lv.length≤lc∧lc≤maxLen)
  (hp:∀ p∈ps,p < zs.length) (hzs:∀ z∈zs,0≤z∧z≤1000):
  Calls Tryz.prog 168 #[.slice (some ⟨gz,0,none⟩) zs.length zs.length,.slice lo lv.length lc,.int .i64 (limit:Int)] w fun e w'=>e = .returned (.tuple #[])∧w'.ownsRow 0 3 1 (.slice (some ⟨gz,0,none⟩) zs.length zs.length) zs.length ((addL ls ps limit (2*lv.length - 2) zs).map (.int .i64))∧Kept (fun k=>k=gz) w w':=by
 have hsls:∀ z∈ls,0≤z∧z≤1048576:=by
  intro z hz'
  rw [hls] at hz'
  obtain ⟨p,hp',rfl⟩:=List.mem_map.1 hz'
  exact hsm p hp'
 have hnl:ls.length=lv.length:=by rw [hls];simp
 have hmS:∀ (wr:World) (i:Nat) (a:Option Addr) (c:Nat),Kept NoB w wr→OwnIt wr a c (rowS ls i)→i≤30→
   Calls Tryz.prog 184 #[.slice lo lv.length lc,.slice a (rowS ls i).length c] wr fun e w'=>∃ a' c',e = .returned (.slice a' (rowS ls (i+1)).length c')∧RowSt wr w' a' c' (rowS ls (i+1)):=by
  intro wr i a c hk ho hi
  have:=merged_calls lo a lc c B wr.heap.size lv (rowS ls i) wr (hl.kept hk) ho.reads hsm (small_row50 ls hsls i hi) hll (by have:=rowS_le ls i;omega) (own_cap2 ho) hlc
  rw [← hls] at this
  exact this
 have hm0:∀ (wr:World) (j:Nat),j=0→Kept NoB w wr→Calls Tryz.prog 184 #[.slice lo lv.length lc,.slice none 0 0] wr fun e w'=>∃ a' c',e = .returned (.slice a' (rowS ls j).length c')∧RowSt wr w' a' c' (rowS ls j):=by
  intro wr j hj hk
  subst hj
  have:=merged_calls lo none lc 0 B 0 lv [] wr (hl.kept hk) (fun i hi=>by simp at hi) hsm (fun p hp=>by cases hp) hll (by simp) ⟨by simp,by unfold maxLen;omega⟩ hlc
  rw [← hls] at this
  exact this
 have HMS:=Hd hmS;have HM0:=Hd hm0
 have HLf:=Hd hl;have HZ:=Hd hz;have HPs:=Hd hps;have HP:=Hd hp;have HZs:=Hd hzs;have HNl:=Hd hnl
 have hgz:gz < w.heap.size:=(hz.lt gz rfl).2
 obtain ⟨i0,hi,hz0,hz1,hz2⟩:=info_parts infoRw
 obtain ⟨R,hR⟩:∃ R,R=addL ls ps limit (2*lv.length - 2) zs:=⟨_,rfl⟩
 rw [← hR]
 obtain ⟨n,hn⟩:∃ n,n=lv.length:=⟨_,rfl⟩
 rw [← hn] at hR
 have HRe:=Hd hR
 clear hR
 obtain ⟨m,hm⟩:∃ m,m=zs.length:=⟨_,rfl⟩
 obtain ⟨h3,h4⟩:=hlim
 have HLm:=Hd hlm
 have HN:=Hd hn;have HM:=Hd hm
 rw [← hn] at h2 hll hlc ⊢
 rw [← hn] at HMS HM0
 rw [← hm]
 clear hmS hm0 hl hz hps hp hzs hnl hls hsls hsm hlm hn hm
 go_enter Tryz.func168,Tryz.ntmps168
 go_wp2_with (at_make;refine wpList_make_full _ rfl _ _ _ rfl 0 241 i0 (.slice none 0 0) 1 Tryz.underlying240 hi hz0 hz1 .i64 .i64 _ _ limit rfl rfl rfl rfl (by rw [hz2];omega) (by unfold maxLen;omega) (Nat.zero_le _) ?_)
 intro w1 hown hgrow
 have hk1:Kept NoB w w1:=(Kept.refl _ _).grown hgrow (fun k _ e=>by cases e)
 have hG1:w.heap.size < w1.heap.size:=by have:=(hown.lt w.heap.size rfl).2;omega
 obtain ⟨G,hG⟩:∃ G,G=w.heap.size:=⟨_,rfl⟩
 rw [← hG] at hown hG1 hgz ⊢
 have hr1:RowsAt w1 ls G limit 0 (madeCells #[Value.slice none 0 0] limit).toList:=⟨hown,fun t ht=>by omega⟩
 have HR1:=Hd hr1;have HK1:=Hd hk1;have HG:=Hd hG
 clear hr1 hown hgrow hk1 hG
 go_wp2
 go_loopw [20,7,8] (fun v20 _v7 _v8 wr=>∃ (j:Nat) (xs:List Value),v20 = .int .i64 (j:Int)∧j≤limit∧Hid (RowsAt wr ls G limit j xs)∧Hid (Kept NoB w wr)∧G < wr.heap.size) (fun v20 _ _ _=>limit - (intOf v20).toNat)
 case atStart=>exact ⟨0,_,rfl,by omega,HR1,HK1,hG1⟩
 case round=>
  clear HR1 HK1 hG1
  obtain ⟨j,xs,rfl,hj,HR,HK,hGs⟩:=hrel
  by_cases hlt:(j:Int) < limit
  ·have hcj:∃ u,wr.cell? ⟨G,j,none⟩=some u:=by
    rw [HR.out.own.cellAt j (by omega)]
    exact ⟨_,List.getElem?_eq_getElem (by have:=HR.out.own.1;omega)⟩
   obtain ⟨u,hu⟩:=hcj
   have hfj:=HR.out.own.frozenAt j
   have hjl:j < limit:=by omega
   by_cases hj0:j=0
   ·have hnp:¬ 0 < (j:Int):=by omega
    have hm:=HM0.out wr j hj0 HK.out
    have HMj:=Hd hm
    clear hm hj0
    go_wp2_with fail
    refine HMj.out.mono ?_
    rintro e w2 ⟨a',c',rfl,hst⟩
    obtain ⟨hput,hkp⟩:=HR.out.put hst hjl hGs
    have hf2:w2.frozen? ⟨G,j,none⟩=false:=(HR.out.kept hst.kept (fun _ _ h=>h)).own.frozenAt j
    have hu2:=hst.kept.cell hu
    have HPut:=Hd hput
    have HK3:Hid (Kept NoB w (w2.setCell ⟨G,j,none⟩ (.slice a' (rowS ls j).length c'))):=Hd (HK.out.trans' hkp (fun k hk e=>by have:=HG.out;omega))
    have hGs3:G < (w2.setCell ⟨G,j,none⟩ (.slice a' (rowS ls j).length c')).heap.size:=Nat.lt_of_lt_of_le hGs hkp.size
    clear hput hst hkp
    go_wp2
    go_roundw
    case rel=>exact ⟨j+1,_,by go_num,by omega,HPut,HK3,hGs3⟩
    case measure=>simp [intOf];omega
   ·obtain ⟨i,rfl⟩:∃ i,j=i+1:=⟨j - 1,by omega⟩
    obtain ⟨a,c,hx,ho,hfr⟩:=HR.out.rows i (by omega)
    have hci:wr.cell? ⟨G,i,none⟩=some (.slice a (rowS ls i).length c):=by
     rw [HR.out.own.cellAt i (by omega)];exact hx
    have hm:=HMS.out wr i a c HK.out ho (by omega)
    have HMj:=Hd hm
    clear hm hj0 ho hfr hx
    go_wp2_with fail
    refine HMj.out.mono ?_
    rintro e w2 ⟨a',c',rfl,hst⟩
    obtain ⟨hput,hkp⟩:=HR.out.put hst hjl hGs
    have hf2:w2.frozen? ⟨G,i+1,none⟩=false:=(HR.out.kept hst.kept (fun _ _ h=>h)).own.frozenAt (i+1)
    have hu2:=hst.kept.cell hu
    have HPut:=Hd hput
    have HK3:Hid (Kept NoB w (w2.setCell ⟨G,i+1,none⟩ (.slice a' (rowS ls (i+1)).length c'))):=Hd (HK.out.trans' hkp (fun k hk e=>by have:=HG.out;omega))
    have hGs3:G < (w2.setCell ⟨G,i+1,none⟩ (.slice a' (rowS ls (i+1)).length c')).heap.size:=Nat.lt_of_lt_of_le hGs hkp.size
    clear hput hst hkp
    go_wp2
    go_roundw
    case rel=>exact ⟨i+1+1,_,by go_num,by omega,HPut,HK3,hGs3⟩
    case measure=>simp [intOf];omega
  ·have hjl:j=limit:=by omega
   subst hjl
   rename World=>W3
   have hown3:=HK.out.row HZ.out (fun _ _ h=>h)
   rw [← HM.out] at hown3
   have HO3:=Hd hown3
   have hk0:∀ t,j=t+1→2*n - 2≤(rowS ls t).length:=fun t ht=>by
    have h:=rowS_room ls j h3 (by rw [HNl.out];exact HLm.out)
    rw [HNl.out,← HN.out,show j - 1=t by omega] at h
    exact h
   have HK0:=Hd hk0
   have hpl:ps.length=n:=by have:=congrArg List.length HPs.out;simp at this;rw [HN.out];exact this.symm
   have HPl:=Hd hpl
   clear hown3 hk0 hpl hlt
   go_wp2
   go_loopw [9,10,11,13,15] (fun v9 v10 _v11 _v13 _v15 wr=>∃ (i k:Nat) (ys:List Int),v9 = .int .i64 (k:Int)∧v10 = .int .i64 ((i:Int) - 1)∧i≤j∧k≤2*n∧Hid (∀ t,i=t+1→k≤(rowS ls t).length)∧Hid (ys.length=m)∧Hid (wr.ownsRow 0 3 1 (.slice (some ⟨gz,0,none⟩) m m) m (ys.map (.int .i64)))∧Hid (∀ z∈ys,0≤z∧z≤1000+1000*((j:Int) - (i:Int)))∧Hid (addL ls ps i k ys=R)∧Hid (Kept (fun q=>q=gz) W3 wr)) (fun _ v10 _ _ _ _=>(intOf v10+1).toNat)
   case atStart=>exact ⟨j,2*n - 2,zs,by congr 1;omega,rfl,by omega,by omega,HK0,Hd HM.out.symm,HO3,Hd (fun z hz=>by have:=HZs.out z hz;omega),Hd HRe.out.symm,Hd (Kept.refl _ _)⟩
   case round=>
    clear HO3 HRe HK0
    obtain ⟨i,k,ys,rfl,rfl,hij,hk2n,HKr,HYl,HO,HYb,HX,HKz⟩:=hrel
    by_cases hi0:i=0
    ·subst hi0
     have hR:R=ys:=HX.out.symm
     have HRe:=Hd hR
     clear hR
     go_wp2
     go_end0
     exact ⟨rfl,by rw [HRe.out];exact HO.out,(HK.out.mono (fun _ _ h=>h.elim)).trans HKz.out⟩
    ·obtain ⟨t,rfl⟩:∃ t,i=t+1:=⟨i - 1,by omega⟩
     have hRw:=HR.out.kept HKz.out (fun k hk e=>by have:=HG.out;omega)
     obtain ⟨a,c,hx,ho,hfr⟩:=hRw.rows t (by omega)
     have hci:wr.cell? ⟨G,t,none⟩=some (.slice a (rowS ls t).length c):=by
      rw [hRw.own.cellAt t (by omega)];exact hx
     have hge:n≤(rowS ls t).length:=by
      have h1:=leafs_row ls t
      have h2:=packed_leaf (rowS ls t)
      have h3:=HNl.out
      have h4:=HN.out
      omega
     obtain ⟨g,rfl⟩:=own_some ho (by omega)
     have hkL:=HKr.out t rfl
     have hLc:=(own_cap2 ho).1
     obtain ⟨q1,q2,q3,q4⟩:=chosen_ok ls t k hkL
     have HRd:=Hd ho.reads
     have hxx:=HX.out
     unfold addL at hxx
     obtain ⟨P,hP⟩:∃ P,P=packedN ((rowS ls t).take k):=⟨_,rfl⟩
     rw [← hP] at q1 q2 q3 q4 hxx
     rw [HNl.out,← HN.out] at q1
     have h2P:2*P≤2*n:=by
      rcases Nat.eq_zero_or_pos t with h | h
      ·have:=q3 h;omega
      ·have h5:=q4 (t - 1) (by omega)
       have h6:=rowS_le ls (t - 1)
       rw [HNl.out,← HN.out] at h6
       omega
     have HPe:=Hd hP;have HXx:=Hd hxx;have HQ4:=Hd q4
     obtain ⟨L,hL⟩:∃ L,L=(rowS ls t).length:=⟨_,rfl⟩
     have HL:=Hd hL
     rw [← hL] at hci hge hkL hLc
     clear hP hxx q4 hRw ho hfr hx hL HX
     go_wp2
     go_loopw [11,54,13] (fun v11 v54 _v13 wx=>∃ e N:Nat,v54 = .int .i64 (e:Int)∧e≤k∧v11 = .int .i64 (N:Int)∧N≤e∧Hid (N=packedN ((rowS ls t).take e))∧Hid (Kept NoB wr wx)) (fun _ v54 _ _=>k - (intOf v54).toNat)
     case atStart=>exact ⟨0,0,rfl,by omega,rfl,by omega,Hd rfl,Kept.refl _ _⟩
     case round=>
      obtain ⟨e,N,rfl,hek,rfl,hNe,HNP,HKx⟩:=hrel
      by_cases hlt:(e:Int) < k
      ·obtain ⟨g',off',he,_,hw0,hb0⟩:=HRd.out e (by have:=HL.out;omega)
       cases he
       have hw1:=HKx.out.cell hw0
       have hb1:=HKx.out.cell hb0
       have hps:=packed_step (rowS ls t) e (by have:=HL.out;omega)
       rw [← HNP.out] at hps
       obtain ⟨x,hx⟩:∃ x,x=((rowS ls t).getD e (0,false)).1:=⟨_,rfl⟩
       obtain ⟨b,hb⟩:∃ b,b=((rowS ls t).getD e (0,false)).2:=⟨_,rfl⟩
       rw [← hx,Nat.zero_add] at hw1
       rw [← hb,Nat.zero_add] at hb1
       rw [← hb] at hps
       have HPs2:=Hd hps
       clear hw0 hb0 hx hb hps
       cases b
       ·go_wp2
        go_roundw
        case rel=>exact ⟨e+1,N,by go_num,by omega,rfl,by omega,Hd HPs2.out.symm,HKx.out.alloc _⟩
        case measure=>simp [intOf];omega
       ·go_wp2
        go_roundw
        case rel=>exact ⟨e+1,N+1,by go_num,by omega,by go_num,by omega,Hd HPs2.out.symm,HKx.out.alloc _⟩
        case measure=>simp [intOf];omega
      ·have hke:e=k:=by omega
       subst hke
       have hNP:N=P:=by rw [HNP.out,HPe.out]
       subst hNP
       obtain ⟨q,hq⟩:∃ q:Nat,q=e - N:=⟨_,rfl⟩
       have hql:e - N≤lc:=by omega
       rw [← hq] at HXx
       obtain ⟨gl,ofl,rfl,hglB,_⟩:=HLf.out 0 (by have:=HN.out;omega)
       have HKw:Hid (Kept (fun q=>q=gz) W3 wr):=Hd (HKz.out.trans (HKx.out.mono (fun _ _ h=>h.elim)))
       have HOw:Hid (wr.ownsRow 0 3 1 (.slice (some ⟨gz,0,none⟩) m m) m (ys.map (.int .i64))):=Hd (HKx.out.row HO.out (fun _ _ h=>h))
       clear HKx HNP HO HKz hlt hNe hci HRd
       go_wp2
       go_loopw [69,15] (fun v69 _v15 wx=>∃ (f:Nat) (ys':List Int),v69 = .int .i64 (f:Int)∧f≤q∧Hid (ys'=bump ys (ps.take f))∧Hid (wx.ownsRow 0 3 1 (.slice (some ⟨gz,0,none⟩) m m) m (ys'.map (.int .i64)))∧Hid (∀ z∈ys',0≤z∧z≤1000+1000*((j:Int) - ((t:Int)+1))+f)∧Hid (Kept (fun q=>q=gz) W3 wx)) (fun v69 _ _=>q - (intOf v69).toNat)
       case atStart=>exact ⟨0,ys,rfl,by omega,Hd rfl,HOw,Hd (fun z hz=>by have:=HYb.out z hz;omega),HKw⟩
       case round=>
        clear HOw HKw
        obtain ⟨f,ys',rfl,hfq,HB,HO,HYb',HKx⟩:=hrel
        by_cases hlt:(f:Int) < q
        ·obtain ⟨g',off',he,hgB,hp0,hz0'⟩:=HLf.out f (by have:=HN.out;omega)
         cases he
         obtain ⟨r1,r2,r3⟩:=place_at lv ps HPs.out f (by have:=HN.out;omega)
         obtain ⟨p,hp⟩:∃ p,p=ps.getD f 0:=⟨_,rfl⟩
         rw [← hp] at r1 r2 r3
         rw [r1] at hp0
         have hpm:p < m:=by rw [HM.out];exact HP.out p r2
         obtain ⟨z,hz⟩:∃ z,z=(lv.getD f (0,0)).2:=⟨_,rfl⟩
         rw [← hz] at hz0'
         have hne:∀ k,k < B→¬ (fun q=>q=gz) k:=fun k hk e=>by omega
         have hyl:ys'.length=m:=by rw [HB.out,bump_len,HYl.out]
         have hcell:wr.cell? ⟨gz,p,none⟩=some (.int .i64 (ys'.getD p 0)):=by
          rw [HO.out.cellAt p (by omega)];simp [List.getD,show p < ys'.length by omega]
         have hfz:=HO.out.frozenAt p
         have hbz:0≤ys'.getD p 0∧ys'.getD p 0≤1000+1000*((j:Int) - ((t:Int)+1))+f:=by
          have hpl:p < ys'.length:=by omega
          have:ys'.getD p 0=ys'[p]:=by simp [List.getD,hpl]
          rw [this];exact HYb'.out _ (List.getElem_mem hpl)
         have hB2:ys'.set p (ys'.getD p 0+1)=bump ys (ps.take (f+1)):=by rw [r3,bump_snoc,← HB.out]
         have hpc:=(World.cell?_of_block (HKx.out.block _ (Nat.lt_of_lt_of_le (World.block_lt_of_cell? _ _ (HK.out.cell hp0)) (Nat.le_refl _)) (hne gl hgB))).trans (HK.out.cell hp0)
         have hzc:=(World.cell?_of_block (HKx.out.block _ (Nat.lt_of_lt_of_le (World.block_lt_of_cell? _ _ (HK.out.cell hz0')) (Nat.le_refl _)) (hne gl hgB))).trans (HK.out.cell hz0')
         obtain ⟨y,hy⟩:∃ y,y=ys'.getD p 0:=⟨_,rfl⟩
         rw [← hy] at hcell hbz hB2
         have hst:=HO.out.stored p (.int .i64 (y+1))
         have hset:(ys'.map (Value.int .i64)).set p (.int .i64 (y+1))=(ys'.set p (y+1)).map (Value.int .i64):=by rw [List.map_set]
         rw [hset] at hst
         have HSt:=Hd (hst.1.alloc (.cells #[.int .i64 (p:Int),.int .i64 z] 226));have HB2:=Hd hB2
         have HBd:Hid (∀ z∈ys'.set p (y+1),0≤z∧z≤1000+1000*((j:Int) - ((t:Int)+1))+((f+1:Nat):Int)):=Hd (fun z hz=>by
          rcases List.mem_or_eq_of_mem_set hz with h | rfl
          ·have:=HYb'.out z h;omega
          ·omega)
         have HK5:Hid (Kept (fun q=>q=gz) W3 ((wr.setCell ⟨gz,p,none⟩ (.int .i64 (y+1))).alloc (.cells #[.int .i64 (p:Int),.int .i64 z] 226))):=Hd ((HKx.out.setCell (p:=⟨gz,p,none⟩) (.inl rfl) _).alloc _)
         have hgw:gz < wr.heap.size:=(HO.out.lt gz rfl).2
         clear hst hset hB2 hz hp r1 r2 r3 hne hp0 hz0' HO HKx hy
         go_wp2
         go_roundw
         case rel=>exact ⟨f+1,ys'.set p (y+1),by go_num,by omega,HB2,HSt,HBd,HK5⟩
         case measure=>simp [intOf];omega
        ·have hfe:f=q:=by omega
         subst hfe
         have hyl:ys'.length=m:=by rw [HB.out,bump_len,HYl.out]
         have hX2:addL ls ps t (2*N) ys'=R:=by rw [HB.out];exact HXx.out
         go_wp2
         go_roundw
         case rel=>exact ⟨t,2*N,ys',by go_num,rfl,by omega,h2P,HQ4,Hd hyl,HO,Hd (fun z hz=>by have:=HYb'.out z hz;omega),Hd hX2,HKx⟩
         case measure=>simp [intOf]
theorem nan_any (x:Int)(w:World):Calls Tryz.prog 187 #[.int .i64 x] w fun e w'=>e = .returned (.bool false)∧w=w':=by
 go_enter Tryz.func187,Tryz.ntmps187
 go_wp2
 go_ret
 exact ⟨rfl,rfl⟩
def cmpI (x y:Int):Int:=if x < y then -1 else if y < x then 1 else 0
theorem compare_any (x y:Int)(w:World):Calls Tryz.prog 183 #[.int .i64 x,.int .i64 y] w fun e w'=>e = .returned (.int .i64 (cmpI x y))∧w=w':=by
 have HN:=Hd nan_any
 have hc:(x < y∧cmpI x y = -1)∨(¬ x < y∧y < x∧cmpI x y=1)∨(¬ x < y∧¬ y < x∧cmpI x y=0):=by
  unfold cmpI
  by_cases h1:x < y
  ·exact .inl ⟨h1,if_pos h1⟩
  ·by_cases h2:y < x
   ·exact .inr (.inl ⟨h1,h2,by rw [if_neg h1,if_pos h2]⟩)
   ·exact .inr (.inr ⟨h1,h2,by rw [if_neg h1,if_neg h2]⟩)
 obtain ⟨c,hcc⟩:∃ c,c=cmpI x y:=⟨_,rfl⟩
 rw [← hcc] at hc ⊢
 clear hcc
 go_enter Tryz.func183,Tryz.ntmps183
 go_wp2_with fail
 refine (HN.out x w).mono ?_
 rintro e w1 ⟨rfl,rfl⟩
 go_wp2_with fail
 refine (HN.out y w).mono ?_
 rintro e w1 ⟨rfl,rfl⟩
 rcases hc with ⟨h1,rfl⟩ | ⟨h1,h2,rfl⟩ | ⟨h1,h2,rfl⟩
 all_goals
  go_wp2
  go_ret
  exact ⟨rfl,rfl⟩
theorem less_any (p q x y:Int)(w:World):Calls Tryz.prog 182 #[.agg #[.int .i64 p,.int .i64 x],.agg #[.int .i64 q,.int .i64 y]] w fun e w'=>e = .returned (.int .i64 (cmpI x y))∧Kept NoB w w':=by
 have HC:=Hd (compare_any x y)
 go_enter Tryz.func182,Tryz.ntmps182
 go_wp2_with fail
 refine (HC.out _).mono ?_
 rintro e w1 ⟨rfl,rfl⟩
 go_wp2
 go_ret
 exact ⟨rfl,((Kept.refl _ _).alloc _).alloc _⟩
def Up (lv:List (Int × Int)):Prop:=∀ i,i+1 < lv.length→(lv.getD i (0,0)).2≤(lv.getD (i+1) (0,0)).2
theorem insertion_up (a:Option Addr)(c B:Nat)(lv:List (Int × Int))(w:World)(hr:RdLf w B a lv)(hu:Up lv)(hl:lv.length≤1000):
  Calls Tryz.prog 189 #[.slice a lv.length c,.int .i64 0,.int .i64 (lv.length:Int),.func (.func 182) #[] #[]] w fun e w'=>e = .returned (.tuple #[])∧Kept NoB w w':=by
 have HR:=Hd hr;have HU:=Hd hu;have HL:=Hd less_any
 obtain ⟨n,hn⟩:∃ n,n=lv.length:=⟨_,rfl⟩
 have HN:=Hd hn
 rw [← hn] at hl ⊢
 clear hr hu hn
 go_enter Tryz.func189,Tryz.ntmps189
 go_wp2
 go_loopw [8,9] (fun v8 _v9 wr=>∃ j:Nat,v8 = .int .i64 (j:Int)∧1≤j∧Hid (Kept NoB w wr)) (fun v8 _ _=>n - (intOf v8).toNat)
 case atStart=>exact ⟨1,rfl,by omega,Kept.refl _ _⟩
 case round=>
  obtain ⟨j,rfl,hj,HK⟩:=hrel
  by_cases hlt:(j:Int) < n
  ·obtain ⟨i,hji⟩:∃ i,i+1=j:=⟨j - 1,by omega⟩
   obtain ⟨g,off,rfl,_,hp0,hx0⟩:=HR.out j (by have:=HN.out;omega)
   obtain ⟨g',off',he,_,hq0,hy0⟩:=HR.out i (by have:=HN.out;omega)
   cases he
   have hup:=HU.out i (by have:=HN.out;omega)
   rw [hji] at hup
   obtain ⟨p,hp⟩:∃ p,p=(lv.getD j (0,0)).1:=⟨_,rfl⟩
   obtain ⟨x,hx⟩:∃ x,x=(lv.getD j (0,0)).2:=⟨_,rfl⟩
   obtain ⟨q,hq⟩:∃ q,q=(lv.getD i (0,0)).1:=⟨_,rfl⟩
   obtain ⟨y,hy⟩:∃ y,y=(lv.getD i (0,0)).2:=⟨_,rfl⟩
   rw [← hp] at hp0
   rw [← hx] at hx0 hup
   rw [← hq] at hq0
   rw [← hy] at hy0 hup
   have hcmp:decide (cmpI x y < 0)=false:=by
    apply decide_eq_false
    unfold cmpI
    rw [if_neg (by omega)]
    split <;> decide
   obtain ⟨k,hk⟩:∃ k,k=cmpI x y:=⟨_,rfl⟩
   have hless:∀ w,Calls Tryz.prog 182 #[.agg #[.int .i64 p,.int .i64 x],.agg #[.int .i64 q,.int .i64 y]] w fun e w'=>e = .returned (.int .i64 k)∧Kept NoB w w':=by
    rw [hk];exact HL.out p q x y
   rw [← hk] at hcmp
   have HLs:=Hd hless
   have HP0:=Hd hp0;have HX0:=Hd hx0;have HQ0:=Hd hq0;have HY0:=Hd hy0
   clear hp hx hq hy hk hless hp0 hx0 hq0 hy0 hup
   go_wp2
   go_loopw [9] (fun v9 wr=>v9 = .int .i64 (j:Int)∧Hid (Kept NoB w wr)) (fun _ _=>0)
   case atStart=>exact ⟨rfl,HK⟩
   case round=>
    clear HK
    obtain ⟨rfl,HK⟩:=hrel
    have b1:(j:Int) < (n:Int):=by omega
    have b2:(i:Int) < (n:Int):=by omega
    have b3:(0:Int)≤(j:Int):=by omega
    have b4:(0:Int)≤(i:Int):=by omega
    have b5:decide ((0:Int) < (j:Int))=true:=decide_eq_true (by omega)
    have b5n:decide (0 < j)=true:=decide_eq_true (by omega)
    have b6:IntKind.i64.wrap ((j:Int) - 1)=(i:Int):=by rw [IntWalk.i64_in _ (by omega)];omega
    have b7:j < n:=by omega
    have b8:i < n:=by omega
    have b9:(0:Int) < (j:Int):=by omega
    have HJi:=Hd hji
    clear hji
    have hk0:Kept NoB wr wr:=Kept.refl _ _
    have d0:∀ W:World,Kept NoB wr W→W.cell? ⟨g,off+j*2,none⟩=some (.int .i64 p):=fun W hk=>(HK.out.trans hk).cell HP0.out
    have d1:∀ W:World,Kept NoB wr W→W.cell? ⟨g,off+j*2+1,none⟩=some (.int .i64 x):=fun W hk=>(HK.out.trans hk).cell HX0.out
    have d2:∀ W:World,Kept NoB wr W→W.cell? ⟨g,off+i*2,none⟩=some (.int .i64 q):=fun W hk=>(HK.out.trans hk).cell HQ0.out
    have d3:∀ W:World,Kept NoB wr W→W.cell? ⟨g,off+i*2+1,none⟩=some (.int .i64 y):=fun W hk=>(HK.out.trans hk).cell HY0.out
    go_upto_region 4 with fail
    go_region_held3 (fun W=>Kept NoB wr W) (first | assumption | exact Kept.drew (Kept.refl _ _) | exact Kept.drew (by assumption) | exact Kept.trans (by assumption) hkn)
     (first
      | (go_at_call 182;((with_reducible refine (HLs.out _).mono ?_);rintro e wn ⟨rfl,hkn⟩)))
    have hkw:Kept NoB wr wn:=by assumption
    have HKw:=Hd (HK.out.trans hkw)
    clear hkw hkn d0 d1 d2 d3 hk0
    go_wp2
    go_roundw
    case rel=>exact ⟨j+1,by go_num,by omega,HKw⟩
    case measure=>simp [intOf];omega
  ·have hge:n≤j:=by omega
   go_wp2
   go_end0
   exact ⟨rfl,HK.out⟩
theorem stable_up (a:Option Addr)(c B:Nat)(lv:List (Int × Int))(w:World)(hr:RdLf w B a lv)(hu:Up lv)(hl:lv.length < 20):
  Calls Tryz.prog 186 #[.slice a lv.length c,.int .i64 (lv.length:Int),.func (.func 182) #[] #[]] w fun e w'=>e = .returned (.tuple #[])∧Kept NoB w w':=by
 have HI:=Hd (insertion_up a c B lv w hr hu (by omega))
 obtain ⟨n,hn⟩:∃ n,n=lv.length:=⟨_,rfl⟩
 rw [← hn] at hl HI ⊢
 clear hn hr hu
 have h1:¬ (20:Int)≤(n:Int):=by omega
 have h2:¬ (20:Int) < (n:Int):=by omega
 have h3:n < 20:=by omega
 go_enter Tryz.func186,Tryz.ntmps186
 go_wp2
 go_loopw [7,8] (fun v7 v8 wr=>v7 = .int .i64 0∧v8 = .int .i64 20∧w=wr) (fun _ _ _=>0)
 case atStart=>exact ⟨rfl,rfl,rfl⟩
 case round=>
  obtain ⟨rfl,rfl,rfl⟩:=hrel
  go_wp2_with fail
  refine HI.out.mono ?_
  rintro e w1 ⟨rfl,hk⟩
  have HK:=Hd hk
  clear hk
  go_wp2
  go_loopw [6,7,8,9] (fun v6 v7 v8 _v9 wr=>v6 = .int .i64 20∧Hid (Kept NoB w wr)) (fun _ _ _ _ _=>0)
  case atStart=>exact ⟨rfl,HK⟩
  case round=>
   clear HK
   obtain ⟨rfl,HK⟩:=hrel
   go_wp2
   go_end0
   exact ⟨rfl,HK.out⟩
theorem sort_up (a:Option Addr)(c B:Nat)(lv:List (Int × Int))(w:World)(hr:RdLf w B a lv)(hu:Up lv)(hl:lv.length < 20):
  Calls Tryz.prog 181 #[.slice a lv.length c,.func (.func 182) #[] #[]] w fun e w'=>e = .returned (.tuple #[])∧Kept NoB w w':=by
 have HI:=Hd (stable_up a c B lv w hr hu (by omega))
 obtain ⟨n,hn⟩:∃ n,n=lv.length:=⟨_,rfl⟩
 rw [← hn] at hl HI ⊢
 clear hn hr hu
 go_enter Tryz.func181,Tryz.ntmps181
 go_wp2_with fail
 refine HI.out.mono ?_
 rintro e w1 ⟨rfl,hk⟩
 have HK:=Hd hk
 clear hk
 go_wp2
 go_end0
 exact ⟨rfl,HK.out⟩
theorem infoLf:(Tryz.prog.info? 226).map (fun i=>(i.zero,i.size,i.bytes))=some (some (.agg #[.int .i64 0,.int .i64 0]),2,16):=by kernel_rfl
def lcells (rs:List (Int × Int)):List Value:=rs.flatMap fun p=>[.int .i64 p.1,.int .i64 p.2]
theorem lcells_app (rs:List (Int × Int))(s x:Int):lcells rs++[.int .i64 s,.int .i64 x]=lcells (rs++[(s,x)]):=by simp [lcells]
theorem lcells_at:∀ (rs:List (Int × Int)) (i:Nat),i < rs.length→(lcells rs)[i*2]?=some (.int .i64 (rs.getD i (0,0)).1)∧(lcells rs)[i*2+1]?=some (.int .i64 (rs.getD i (0,0)).2):=by
 intro rs
 induction rs with
 | nil=>intro i hi;simp at hi
 | cons p r ih=>
  intro i hi
  have e:lcells (p :: r) = .int .i64 p.1 :: .int .i64 p.2 :: lcells r:=by simp [lcells]
  rw [e]
  cases i with
  | zero=>exact ⟨rfl,rfl⟩
  | succ i=>
   have hi':i < r.length:=by simpa using hi
   obtain ⟨h1,h2⟩:=ih i hi'
   rw [show (i+1)*2=i*2+1+1 by omega]
   refine ⟨?_,?_⟩
   ·simpa using h1
   ·rw [List.getElem?_cons_succ,List.getElem?_cons_succ];simpa using h2
def OwnL (w:World)(ao:Option Addr)(cap:Nat)(rs:List (Int × Int)):Prop:=w.ownsRow 0 226 2 (.slice ao rs.length cap) rs.length (lcells rs)
theorem OwnL.reads {w:World}{a:Option Addr}{c:Nat}{rs:List (Int × Int)}(h:OwnL w a c rs):RdLf w w.heap.size a rs:=by
 intro i hi
 rcases h.2 with ⟨_,hz⟩ | ⟨g,cc,cur,hv,_⟩
 ·omega
 ·simp at hv
  obtain ⟨rfl,rfl⟩:=hv
  obtain ⟨h1,h2⟩:=lcells_at rs i hi
  have hc1:w.cell? ⟨g,i*2,none⟩=some (.int .i64 (rs.getD i (0,0)).1):=by
   rw [← h1];exact h.cellAt (i*2) (by omega)
  have hc2:w.cell? ⟨g,i*2+1,none⟩=some (.int .i64 (rs.getD i (0,0)).2):=by
   rw [← h2];exact h.cellAt (i*2+1) (by omega)
  exact ⟨g,0,rfl,World.block_lt_of_cell? w _ hc1,by rw [Nat.zero_add];exact hc1,by rw [Nat.zero_add];exact hc2⟩
structure LfSt (w0 w:World)(a:Option Addr)(c:Nat)(rs:List (Int × Int)):Prop where
 own:OwnL w a c rs
 kept:Kept NoB w0 w
 fresh:∀ k,(Value.slice a rs.length c).ownBlock=some k→w0.heap.size≤k
theorem LfSt.app {w0 wr w2:World}{a' a2:Option Addr}{c' c2 len:Nat}{rs:List (Int × Int)}{s x:Int}{o:Obj}(h:LfSt w0 wr a' c' rs)(hlen:len=rs.length)
  (hown:w2.ownsRow 0 226 2 (.slice a2 (len+1) c2) (len+1) (lcells rs++[.int .i64 s,.int .i64 x])) (hgrow:(wr.alloc o).grownBy w2 (Value.slice a' len c').ownBlock)
  (hnew:∀ k,(Value.slice a2 (len+1) c2).ownBlock=some k→(Value.slice a' len c').ownBlock=some k∨wr.heap.size+1≤k):LfSt w0 w2 a2 c2 (rs++[(s,x)]):=by
 subst hlen
 have hl:(rs++[(s,x)]).length=rs.length+1:=by simp
 refine ⟨?_,?_,?_⟩
 ·unfold OwnL
  rw [hl,← lcells_app]
  exact hown
 ·exact (h.kept.alloc o).grown hgrow (fun k hk e=>by have:=h.fresh k e;omega)
 ·intro k hk
  rw [hl] at hk
  rcases hnew k hk with h1 | h1
  ·exact h.fresh k h1
  ·have:=h.kept.size;omega
theorem news_lf (w:World)(s x:Int):∀ (k:Nat) (u:Value),[Value.int .i64 s,.int .i64 x][k]?=some u→(w.alloc (.cells #[.int .i64 s,.int .i64 x] 226)).cell? ((⟨w.heap.size,0,none⟩:Addr).add k)=some u:=by
 intro k u hk
 rw [addr_add,Nat.zero_add,cell_new k rfl]
 simpa using hk
def leavesL:Nat→List Int→List (Int × Int)
 | _,[]=>[]
 | i,z :: r=>if 0 < z then ((i:Int),z) :: leavesL (i+1) r else leavesL (i+1) r
theorem leavesL_step (ws:List Int)(j:Nat)(h:j < ws.length):leavesL j (ws.drop j)=if 0 < ws.getD j 0 then ((j:Int),ws.getD j 0) :: leavesL (j+1) (ws.drop (j+1)) else leavesL (j+1) (ws.drop (j+1)):=by
 have e:ws.drop j=ws.getD j 0 :: ws.drop (j+1):=by
  rw [List.drop_eq_getElem_cons h];simp [List.getD,h]
 conv=>lhs;rw [e]
 rfl
theorem leavesL_end (ws:List Int)(j:Nat)(h:ws.length≤j):leavesL j (ws.drop j)=[]:=by rw [List.drop_of_length_le h];rfl
abbrev Lf:=Int × Int
structure SrtSt (G n c:Nat)(w0 w:World)(rs:List Lf):Prop where
 len:rs.length=n
 own:w.ownsRow 0 226 2 (.slice (some ⟨G,0,none⟩) n c) n (lcells rs)
 kept:Kept (OneB G) w0 w
def swp (rs:List Lf)(i j:Nat):List Lf:=(rs.set i (rs.getD j (0,0))).set j (rs.getD i (0,0))
theorem lcells_set:∀ (rs:List Lf) (i:Nat) (p x:Int),lcells (rs.set i (p,x))=((lcells rs).set (i*2) (.int .i64 p)).set (i*2+1) (.int .i64 x)
 | [],i,p,x=>by simp [lcells]
 | r :: rs,0,p,x=>by simp [lcells]
 | r :: rs,i+1,p,x=>by
  have e:∀ q:List Lf,lcells (r :: q) = .int .i64 r.1 :: .int .i64 r.2 :: lcells q:=fun q=>by simp [lcells]
  rw [List.set_cons_succ,e,lcells_set rs i p x,e,show (i+1)*2=i*2+1+1 by omega,List.set_cons_succ,List.set_cons_succ,List.set_cons_succ,List.set_cons_succ]
theorem SrtSt.cell {G n c:Nat}{w0 w:World}{rs:List Lf}(h:SrtSt G n c w0 w rs)(i:Nat)(hi:i < n):
  w.cell? ⟨G,i*2,none⟩=some (.int .i64 (rs.getD i (0,0)).1)∧w.cell? ⟨G,i*2+1,none⟩=some (.int .i64 (rs.getD i (0,0)).2):=by
 have hl:=h.len
 obtain ⟨h1,h2⟩:=lcells_at rs i (by omega)
 exact ⟨by rw [← h1];exact h.own.cellAt (i*2) (by omega),by rw [← h2];exact h.own.cellAt (i*2+1) (by omega)⟩
theorem SrtSt.frozen {G n c:Nat}{w0 w:World}{rs:List Lf}(h:SrtSt G n c w0 w rs)(j:Nat):w.frozen? ⟨G,j,none⟩=false:=h.own.frozenAt j
theorem SrtSt.put {G n c:Nat}{w0 w:World}{rs:List Lf}(h:SrtSt G n c w0 w rs)(i:Nat)(p x:Int):
  SrtSt G n c w0 ((w.setCell ⟨G,i*2,none⟩ (.int .i64 p)).setCell ⟨G,i*2+1,none⟩ (.int .i64 x)) (rs.set i (p,x)):=by
 obtain ⟨s1,s2⟩:=h.own.stored (i*2) (.int .i64 p)
 obtain ⟨s3,s4⟩:=s1.stored (i*2+1) (.int .i64 x)
 refine ⟨by rw [List.length_set];exact h.len,?_,?_⟩
 ·rw [lcells_set];exact s3
 ·exact Kept.setCell (p:=⟨G,i*2+1,none⟩) (Kept.setCell (p:=⟨G,i*2,none⟩) h.kept (.inl rfl) _) (.inl rfl) _
theorem SrtSt.then {S:Nat→Prop}{G n c:Nat}{w0 w w':World}{rs:List Lf}(h:SrtSt G n c w0 w rs)(hk:Kept S w w')(hS:∀ k,S k→False):SrtSt G n c w0 w' rs:=
 ⟨h.len,hk.row h.own (fun k _ hs=>hS k hs),h.kept.trans (hk.mono (fun k _ hs=>(hS k hs).elim))⟩
theorem SrtSt.from {G n c:Nat}{w0 w w':World}{rs rs':List Lf}(h:SrtSt G n c w0 w rs)(h':SrtSt G n c w w' rs'):SrtSt G n c w0 w' rs':=⟨h'.len,h'.own,h.kept.trans h'.kept⟩
theorem SrtSt.start {G n c:Nat}{w0 w:World}{rs:List Lf}(h:SrtSt G n c w0 w rs):SrtSt G n c w w rs:=⟨h.len,h.own,Kept.refl _ _⟩
theorem swp_app (A B C:List Lf)(x y:Lf):swp (A++x :: (B++y :: C)) A.length (A.length+1+B.length)=A++y :: (B++x :: C):=by
 have h1:(A++x :: (B++y :: C)).getD A.length (0,0)=x:=by simp [List.getD]
 have h2:(A++x :: (B++y :: C)).getD (A.length+1+B.length) (0,0)=y:=by
  rw [List.getD,List.getElem?_append_right (by omega),show A.length+1+B.length - A.length=B.length+1 by omega,List.getElem?_cons_succ,List.getElem?_append_right (by omega)];simp
 unfold swp
 rw [h1,h2,List.set_append_right _ _ (by omega),Nat.sub_self,List.set_cons_zero,List.set_append_right _ _ (by omega),show A.length+1+B.length - A.length=B.length+1 by omega,List.set_cons_succ,List.set_append_right _ _ (by omega),Nat.sub_self,List.set_cons_zero]
theorem app_getD (A C:List Lf)(x:Lf):(A++x :: C).getD A.length (0,0)=x:=by simp [List.getD]
theorem app_getD2 (A B C:List Lf)(x y:Lf):(A++x :: (B++y :: C)).getD (A.length+1+B.length) (0,0)=y:=by
 rw [List.getD,List.getElem?_append_right (by omega),show A.length+1+B.length - A.length=B.length+1 by omega,List.getElem?_cons_succ,List.getElem?_append_right (by omega)];simp
structure TwoAt (G n c:Nat)(w0 w:World)(s t:Nat)(x y:Lf)(rs':List Lf):Prop where
 ls:s < n
 lt:t < n
 ne:s < t
 x0:w.cell? ⟨G,s*2,none⟩=some (.int .i64 x.1)
 x1:w.cell? ⟨G,s*2+1,none⟩=some (.int .i64 x.2)
 y0:w.cell? ⟨G,t*2,none⟩=some (.int .i64 y.1)
 y1:w.cell? ⟨G,t*2+1,none⟩=some (.int .i64 y.2)
 fr:∀ j,w.frozen? ⟨G,j,none⟩=false
 up:SrtSt G n c w0 ((((w.setCell ⟨G,s*2,none⟩ (.int .i64 y.1)).setCell ⟨G,s*2+1,none⟩ (.int .i64 y.2)).setCell ⟨G,t*2,none⟩ (.int .i64 x.1)).setCell ⟨G,t*2+1,none⟩ (.int .i64 x.2)) rs'
 down:SrtSt G n c w0 ((((w.setCell ⟨G,t*2,none⟩ (.int .i64 x.1)).setCell ⟨G,t*2+1,none⟩ (.int .i64 x.2)).setCell ⟨G,s*2,none⟩ (.int .i64 y.1)).setCell ⟨G,s*2+1,none⟩ (.int .i64 y.2)) rs'
theorem SrtSt.two {G n c s t:Nat}{w0 w:World}{A B C:List Lf}{x y:Lf}(h:SrtSt G n c w0 w (A++x :: (B++y :: C)))(hA:A.length=s)(hB:s+1+B.length=t):
  TwoAt G n c w0 w s t x y (A++y :: (B++x :: C)):=by
 subst hA
 subst hB
 have hlen:=h.len
 simp only [List.length_append,List.length_cons] at hlen
 have hx:=app_getD A (B++y :: C) x
 have hy:=app_getD2 A B C x y
 obtain ⟨d0,d1⟩:=h.cell A.length (by omega)
 obtain ⟨d2,d3⟩:=h.cell (A.length+1+B.length) (by omega)
 rw [hx] at d0 d1
 rw [hy] at d2 d3
 have hsw:=swp_app A B C x y
 unfold swp at hsw
 rw [hx,hy] at hsw
 have e1:(y.1,y.2)=y:=rfl
 have e2:(x.1,x.2)=x:=rfl
 refine ⟨by omega,by omega,by omega,d0,d1,d2,d3,h.frozen,?_,?_⟩
 ·have:=(h.put A.length y.1 y.2).put (A.length+1+B.length) x.1 x.2
  rw [e1,e2,hsw] at this
  exact this
 ·have:=(h.put (A.length+1+B.length) x.1 x.2).put A.length y.1 y.2
  rw [e1,e2,List.set_comm _ _ (by omega),hsw] at this
  exact this
theorem swapRange_calls (G n c a b k:Nat)(p X M Y q:List Lf)(fv:Value)(w:World)(h:SrtSt G n c w w (p++(X++(M++(Y++q)))))(ha:p.length=a)(hX:X.length=k)(hY:Y.length=k)(hb:a+k+M.length=b)(hn:n≤1000):
  Calls Tryz.prog 195 #[.slice (some ⟨G,0,none⟩) n c,.int .i64 (a:Int),.int .i64 (b:Int),.int .i64 (k:Int),fv] w fun e w'=>e = .returned (.tuple #[])∧SrtSt G n c w w' (p++(Y++(M++(X++q)))):=by
 have hlen:=h.len
 have hbn:b+k≤n:=by simp at hlen;omega
 have HS0:=Hd h;have HA:=Hd ha;have HX:=Hd hX;have HY:=Hd hY;have HB:=Hd hb
 clear h ha hX hY hb hlen
 go_enter Tryz.func195,Tryz.ntmps195
 go_wp2
 go_loopw [10] (fun v10 wr=>∃ (i:Nat) (X1 X2 Y1 Y2:List Lf),v10 = .int .i64 (i:Int)∧i≤k∧Hid (X=X1++X2)∧Hid (Y=Y1++Y2)∧Hid (X1.length=i∧Y1.length=i)∧Hid (SrtSt G n c w wr (p++(Y1++(X2++(M++(X1++(Y2++q)))))))) (fun v10 _=>k - (intOf v10).toNat)
 case atStart=>exact ⟨0,[],X,[],Y,rfl,by omega,Hd rfl,Hd rfl,Hd ⟨rfl,rfl⟩,HS0⟩
 case round=>
  obtain ⟨i,X1,X2,Y1,Y2,rfl,hi,HX1,HY1,HL,HS⟩:=hrel
  by_cases hlt:(i:Int) < k
  ·have h2:X2.length=k - i∧Y2.length=k - i:=by
    have e1:=HX.out;have e2:=HY.out
    rw [HX1.out,List.length_append] at e1
    rw [HY1.out,List.length_append] at e2
    have:=HL.out
    omega
   obtain ⟨x,X3,rfl⟩:∃ x X3,X2=x :: X3:=by
    cases X2 with
    | nil=>simp at h2;omega
    | cons x X3=>exact ⟨x,X3,rfl⟩
   obtain ⟨y,Y3,rfl⟩:∃ y Y3,Y2=y :: Y3:=by
    cases Y2 with
    | nil=>simp at h2;omega
    | cons x X3=>exact ⟨x,X3,rfl⟩
   simp only [List.length_cons] at h2
   obtain ⟨s,hs⟩:∃ s,s=a+i:=⟨_,rfl⟩
   obtain ⟨t,ht⟩:∃ t,t=b+i:=⟨_,rfl⟩
   have hrow:SrtSt G n c w wr ((p++Y1)++x :: ((X3++(M++X1))++y :: (Y3++q))):=by
    have:=HS.out
    simpa [List.append_assoc] using this
   have hA:(p++Y1).length=s:=by rw [List.length_append,HA.out,HL.out.2];exact hs.symm
   have hB:s+1+(X3++(M++X1)).length=t:=by
    simp only [List.length_append]
    have:=HB.out;have:=HL.out;omega
   obtain ⟨b5,b6,hst,d0,d1,d2,d3,hfr,hup,_⟩:=hrow.two hA hB
   obtain ⟨x1,x2⟩:=x
   obtain ⟨y1,y2⟩:=y
   have HF:=Hd hup
   have b1:IntKind.i64.wrap ((a:Int)+(i:Int))=(s:Int):=by rw [IntWalk.i64_in _ (by omega)];omega
   have b2:IntKind.i64.wrap ((b:Int)+(i:Int))=(t:Int):=by rw [IntWalk.i64_in _ (by omega)];omega
   have b3:(s:Int) < n:=by omega
   have b4:(t:Int) < n:=by omega
   have hst2:¬ s=t:=by omega
   have f0:=hfr (s*2)
   have f1:=hfr (s*2+1)
   have f2:=hfr (t*2)
   have f3:=hfr (t*2+1)
   clear hs ht hA hB h2 hrow hup hfr hst
   go_upto_region 3 with fail
   go_region
   have HF2:Hid (SrtSt G n c w _ _):=Hd (HF.out.then (Kept.drew (Kept.refl NoB _)) (fun _ h=>h))
   clear HF d0 d1 d2 d3 f0 f1 f2 f3
   go_wp2
   go_roundw
   case rel=>
    refine ⟨i+1,X1++[(x1,x2)],X3,Y1++[(y1,y2)],Y3,by go_num,by omega,Hd (by rw [HX1.out];simp),Hd (by rw [HY1.out];simp),Hd (by have:=HL.out;simp;exact this),Hd ?_⟩
    have:=HF2.out
    simpa [List.append_assoc] using this
   case measure=>simp [intOf];omega
  ·have hik:i=k:=by omega
   subst hik
   have h2:X2=[]∧Y2=[]:=by
    have e1:=HX.out;have e2:=HY.out
    rw [HX1.out,List.length_append] at e1
    rw [HY1.out,List.length_append] at e2
    have:=HL.out
    exact ⟨List.eq_nil_of_length_eq_zero (by omega),List.eq_nil_of_length_eq_zero (by omega)⟩
   obtain ⟨rfl,rfl⟩:=h2
   go_wp2
   go_end0
   refine ⟨rfl,?_⟩
   have:=HS.out
   rw [HX1.out,HY1.out]
   simpa [List.append_assoc] using this
theorem split_at (X:List Lf)(j i:Nat)(h:X.length=i)(hj:j≤i):∃ X1 X2,X=X1++X2∧X1.length=j∧X2.length+j=i:=
 ⟨X.take j,X.drop j,(List.take_append_drop j X).symm,by rw [List.length_take];omega,by rw [List.length_drop];omega⟩
theorem i64_sub (a b d:Nat)(h:d+b=a)(ha:a≤100000):IntKind.i64.wrap ((a:Int) - (b:Int))=(d:Int):=by rw [IntWalk.i64_in _ (by omega)];omega
theorem i64_add (a b d:Nat)(h:a+b=d)(ha:d≤100000):IntKind.i64.wrap ((a:Int)+(b:Int))=(d:Int):=by rw [IntWalk.i64_in _ (by omega)];omega
theorem rotate_calls (G n c a m b:Nat)(p L R q:List Lf)(fv:Value)(w:World)(h:SrtSt G n c w w (p++(L++(R++q))))(ha:p.length=a)(hL:a+L.length=m)(hR:m+R.length=b)(h1:1≤L.length)(h2:1≤R.length)(hn:n≤1000):
  Calls Tryz.prog 192 #[.slice (some ⟨G,0,none⟩) n c,.int .i64 (a:Int),.int .i64 (m:Int),.int .i64 (b:Int),fv] w fun e w'=>e = .returned (.tuple #[])∧SrtSt G n c w w' (p++(R++(L++q))):=by
 have hlen:=h.len
 obtain ⟨i0,hi0⟩:∃ i,i=L.length:=⟨_,rfl⟩
 obtain ⟨j0,hj0⟩:∃ j,j=R.length:=⟨_,rfl⟩
 have hbn:b≤n:=by simp at hlen;omega
 rw [← hi0] at hL h1
 rw [← hj0] at hR h2
 have HS0:=Hd h;have HA:=Hd ha;have HI0:=Hd hi0;have HJ0:=Hd hj0
 have e1:=i64_sub m a i0 (by omega) (by omega)
 have e2:=i64_sub b m j0 (by omega) (by omega)
 clear h ha hlen hi0 hj0
 go_enter Tryz.func192,Tryz.ntmps192
 go_wp2
 go_loopw [10,11] (fun v10 v11 wr=>∃ (i j d:Nat) (P X Y Q:List Lf),v10 = .int .i64 (i:Int)∧v11 = .int .i64 (j:Int)∧1≤i∧1≤j∧d+i=m∧m+j≤n∧Hid (P.length=d∧X.length=i∧Y.length=j)∧Hid (p++(R++(L++q))=P++(Y++(X++Q)))∧Hid (SrtSt G n c w wr (P++(X++(Y++Q))))) (fun v10 v11 _=>(intOf v10).toNat+(intOf v11).toNat)
 case atStart=>exact ⟨i0,j0,a,p,L,R,q,rfl,rfl,by omega,by omega,by omega,by omega,Hd ⟨HA.out,HI0.out.symm,HJ0.out.symm⟩,Hd rfl,HS0⟩
 case round=>
  clear e1 e2
  obtain ⟨i,j,d,P,X,Y,Q,rfl,rfl,hi,hj,hd,hmj,HL,HE,HS⟩:=hrel
  have e3:=i64_sub m i d (by omega) (by omega)
  by_cases hne:i=j
  ·subst hne
   have hsw:=swapRange_calls G n c d m i P X [] Y Q fv wr (by simpa using HS.out.start) HL.out.1 HL.out.2.1 HL.out.2.2 (by simpa using hd) hn
   have HSw:=Hd hsw
   have g1:(!((i:Int) == (i:Int)))=false:=by simp
   clear hsw
   go_wp2_with fail
   refine HSw.out.mono ?_
   rintro e w1 ⟨rfl,hs⟩
   have HS1:=Hd hs
   clear hs
   go_wp2
   go_end0
   refine ⟨rfl,?_⟩
   have:=HS.out.from HS1.out
   rw [HE.out]
   simpa using this
  ·have g1:((i:Int) == (j:Int))=false:=by simp;omega
   have g2:¬ (i:Int)=(j:Int):=by omega
   by_cases hij:(j:Int) < i
   ·obtain ⟨X1,X2,rfl,hX1,hX2⟩:=split_at X j i HL.out.2.1 (by omega)
    have hsw:=swapRange_calls G n c d m j P X1 X2 Y Q fv wr (by simpa [List.append_assoc] using HS.out.start) HL.out.1 hX1 HL.out.2.2 (by omega) hn
    have HSw:=Hd hsw
    obtain ⟨t,ht⟩:∃ t,t=i - j:=⟨_,rfl⟩
    have e4:=i64_sub i j t (by omega) (by omega)
    have HX1:=Hd hX1;have HX2:=Hd hX2
    clear hsw hX1 hX2
    go_wp2_with fail
    refine HSw.out.mono ?_
    rintro e w1 ⟨rfl,hs⟩
    have HS1:=Hd hs
    clear hs
    go_wp2
    go_roundw
    case rel=>
     refine ⟨t,j,d+j,P++Y,X2,X1,Q,by go_num,rfl,by omega,by omega,by omega,by omega,Hd ⟨by rw [List.length_append];have:=HL.out;omega,by have:=HX2.out;omega,HX1.out⟩,Hd ?_,Hd ?_⟩
     ·rw [HE.out]
      simp [List.append_assoc]
     ·have:=HS.out.from HS1.out
      simpa [List.append_assoc] using this
    case measure=>simp [intOf];omega
   ·obtain ⟨Y1,Y2,rfl,hY1,hY2⟩:=split_at Y (j - i) j HL.out.2.2 (by omega)
    obtain ⟨s,hs⟩:∃ s,s=m+j:=⟨_,rfl⟩
    obtain ⟨t,ht⟩:∃ t,t+i=s:=⟨s - i,by omega⟩
    obtain ⟨r,hr⟩:∃ r,r+i=j:=⟨j - i,by omega⟩
    have hsw:=swapRange_calls G n c d t i P X Y1 Y2 Q fv wr (by simpa [List.append_assoc] using HS.out.start) HL.out.1 HL.out.2.1 (by omega) (by omega) hn
    have HSw:=Hd hsw
    have e4:=i64_add m j s (by omega) (by omega)
    have e5:=i64_sub s i t (by omega) (by omega)
    have e6:=i64_sub j i r (by omega) (by omega)
    have HY1:=Hd hY1;have HY2:=Hd hY2;have HR:=Hd hr
    clear hsw hY1 hY2 hs ht hr
    go_wp2_with fail
    refine HSw.out.mono ?_
    rintro e w1 ⟨rfl,hs⟩
    have HS1:=Hd hs
    clear hs
    go_wp2
    go_roundw
    case rel=>
     have hr:=HR.out
     refine ⟨i,r,d,P,Y2,Y1,X++Q,rfl,by go_num,by omega,by omega,by omega,by omega,Hd ⟨HL.out.1,by have:=HY2.out;omega,by rw [HY1.out];omega⟩,Hd ?_,Hd ?_⟩
     ·rw [HE.out]
      simp [List.append_assoc]
     ·have:=HS.out.from HS1.out
      simpa [List.append_assoc] using this
    case measure=>have hr:=HR.out;simp [intOf];omega
end Go.Proofs.YtfmjfgmbjdhogaaGreatDoor
