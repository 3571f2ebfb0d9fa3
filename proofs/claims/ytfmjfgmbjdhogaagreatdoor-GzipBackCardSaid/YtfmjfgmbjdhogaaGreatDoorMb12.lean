import Derived.Test.YtfmjfgmbjdhogaaGreatDoorMb11
set_option linter.unusedVariables false
set_option linter.unusedSimpArgs false
set_option maxRecDepth 20000
set_option maxHeartbeats 8000000
namespace Go.Proofs.YtfmjfgmbjdhogaaGreatDoor
open Go.RowKit
def NewR (w:World)(bs:List Int)(e:Ending)(w':World):Prop:=
 ∃ R ao cap,e = .returned (.pointer (some ⟨R,0,none⟩))∧Rdr w' R ao cap bs 0∧w.heap.size≤R∧(∀ k,(Value.slice ao bs.length cap).ownBlock=some k→w.heap.size≤k)∧Kept NoB w w'
theorem newr_any (ao:Option Addr)(cap:Nat)(bs:List Int)(w:World)(hr:Reads w ao bs)(hl:bs.length≤140737488355328)(hb:AllB bs):
  Calls Tryz.prog 95 #[.slice ao bs.length cap] w (NewR w bs):=by
 have HR:=Hd hr;clear hr
 have HB:=Hd hb;clear hb
 go_enter Tryz.func95,Tryz.ntmps95
 go_wp2_with (go_at_call 54;refine (clone_any _ _ _ _ HR.out hl).mono ?_;rintro e w1 ⟨ao',cap',rfl,ho,hf,hn,hk⟩)
 go_ret
 refine ⟨w1.heap.size,ao',cap',rfl,⟨?_,?_,by omega,by omega,HB.out⟩,hk.size,hf,hk.alloc _⟩
 ·exact heap_alloc_new _ _
 ·exact ho.alloc _
def WtrT (T:TypeId)(w:World)(R:Nat)(ao:Option Addr)(cap:Nat)(bs:List Int)(s:Nat):Prop:=
 w.heap[R]?=some (.cells #[.slice ao bs.length cap,.int .i64 s] T (0,0))∧w.ownsRow 0 5 1 (.slice ao bs.length cap) bs.length (bs.map (.int .u8))∧
 AllB bs∧bs.length=(s+7) / 8∧num bs < 2 ^ s∧s≤1000000000000
def Wtr (w:World)(R:Nat)(ao:Option Addr)(cap:Nat)(bs:List Int)(s:Nat):Prop:=WtrT 96 w R ao cap bs s
theorem Wtr.kept {S:Nat→Prop}{w w':World}{R:Nat}{ao:Option Addr}{cap:Nat}{bs:List Int}{p:Nat}(h:Wtr w R ao cap bs p)(hk:Kept S w w')(h1:¬ S R)(h2:∀ k,(Value.slice ao bs.length cap).ownBlock=some k→¬ S k):Wtr w' R ao cap bs p:=
 ⟨hk.obj h.1 h1,hk.row h.2.1 h2,h.2.2⟩
theorem Wtr.keptNo {w w':World}{R:Nat}{ao:Option Addr}{cap:Nat}{bs:List Int}{p:Nat}(h:Wtr w R ao cap bs p)(hk:Kept NoB w w'):Wtr w' R ao cap bs p:=
 h.kept hk (fun h=>h) (fun _ _ h=>h)
def NewW (w:World)(e:Ending)(w':World):Prop:=
 ∃ R,e = .returned (.pointer (some ⟨R,0,none⟩))∧Wtr w' R none 0 [] 0∧w.heap.size≤R∧Kept NoB w w'
theorem neww_any (w:World):Calls Tryz.prog 25 #[] w (NewW w):=by
 go_enter Tryz.func25,Tryz.ntmps25
 go_wp2
 go_ret
 refine ⟨w.heap.size,rfl,⟨heap_alloc_new _ _,World.ownsRow_nil _ _ _ _,(by intro b hb;cases hb),by simp,by simp [num],by omega⟩,Nat.le_refl _,(Kept.refl _ _).alloc _⟩
theorem wlen_any (w:World)(R:Nat)(ao:Option Addr)(cap:Nat)(bs:List Int)(s:Nat)(h:Wtr w R ao cap bs s):
  Calls Tryz.prog 89 #[.pointer (some ⟨R,0,none⟩)] w fun e w'=>e = .returned (.int .i64 s)∧Kept NoB w w':=by
 have c1:w.cell? ⟨R,1,none⟩=some (.int .i64 s):=by simpa using obj_cell h.1 1
 clear h
 go_enter Tryz.func89,Tryz.ntmps89
 go_wp2
 go_ret
 exact ⟨rfl,Kept.refl _ _⟩
theorem wbytes_any (w:World)(R:Nat)(ao:Option Addr)(cap:Nat)(bs:List Int)(s:Nat)(h:Wtr w R ao cap bs s):
  Calls Tryz.prog 28 #[.pointer (some ⟨R,0,none⟩)] w (Copied w ao bs):=by
 have c0:w.cell? ⟨R,0,none⟩=some (.slice ao bs.length cap):=by simpa using obj_cell h.1 0
 have hr:=own_reads h.2.1 rfl
 have hl:bs.length≤140737488355328:=by have:=h.2.2.2.1;have:=h.2.2.2.2.2;omega
 clear h
 have HR:=Hd hr;clear hr
 go_enter Tryz.func28,Tryz.ntmps28
 go_wp2_with (go_at_call 54;refine (clone_any _ _ _ _ HR.out hl).mono ?_;rintro e w1 ⟨ao',cap',rfl,ho,hf,hn,hk⟩)
 go_ret
 exact ⟨ao',cap',rfl,ho,hf,hn,hk⟩
theorem walign_any (w:World)(R:Nat)(ao:Option Addr)(cap:Nat)(bs:List Int)(s:Nat)(h:Wtr w R ao cap bs s)(hs:s≤900000000000):
  Calls Tryz.prog 83 #[.pointer (some ⟨R,0,none⟩)] w fun e w'=>e = .returned (.tuple #[])∧Wtr w' R ao cap bs (up8 s)∧Kept (OneB R) w w':=by
 have c0:w.cell? ⟨R,0,none⟩=some (.slice ao bs.length cap):=by simpa using obj_cell h.1 0
 have c1:w.cell? ⟨R,1,none⟩=some (.int .i64 s):=by simpa using obj_cell h.1 1
 have f1:w.frozen? ⟨R,1,none⟩=false:=obj_free h.1 1
 have hl:=h.2.2.2.1
 have hlm:bs.length≤1000000000000000:=by omega
 have HL:=Hd hl;clear hl
 have H:=Hd h;clear h
 go_enter Tryz.func83,Tryz.ntmps83
 go_wp2
 go_end0
 have e8:8*(bs.length:Int)=((up8 s:Nat):Int):=by have:=HL.out;unfold up8;omega
 rw [e8]
 obtain ⟨h1,h2,h3,h4,h5,h6⟩:=H.out
 have hne:=row_ne h2 h1 (by decide)
 refine ⟨rfl,⟨?_,?_,h3,by unfold up8;omega,?_,by unfold up8;omega⟩,Kept.setCell (S:=OneB R) (p:=⟨R,1,none⟩) (Kept.refl _ _) (.inl rfl) _⟩
 ·simpa using obj_set h1 1 (.int .i64 (up8 s:Nat))
 ·exact (Kept.setCell (S:=OneB R) (p:=⟨R,1,none⟩) (Kept.refl _ w) (.inl rfl) _).row h2 (fun k hk' e=>hne k hk' e)
 ·exact Nat.lt_of_lt_of_le h5 (pow_le_pow2 (by unfold up8;omega))
theorem and1_u32d (r:Nat)(h:r < 4294967296):bits .and .u32 (r:Int) 1=((r % 2:Nat):Int):=by
 have:=u32_and_nat r 1 h (by decide)
 rw [nat_mask1] at this
 exact this
theorem rank_at:∀ (ls:List Int) (z:Int) (k:Nat),k < ls.count z→∃ j,j < ls.length∧ls.getD j 0=z∧(ls.take j).count z=k
 | [],z,k,h=>by simp at h
 | y :: r,z,k,h=>by
  rw [List.count_cons] at h
  by_cases e:y=z
  ·subst e
   cases k with
   | zero=>exact ⟨0,by simp,rfl,by simp⟩
   | succ k=>
    simp at h
    obtain ⟨j,h1,h2,h3⟩:=rank_at r y k h
    exact ⟨j+1,by simpa using h1,by simpa using h2,by rw [List.take_succ_cons,List.count_cons,h3];simp⟩
  ·have e2:(y == z)=false:=by simpa using e
   rw [e2] at h
   simp at h
   obtain ⟨j,h1,h2,h3⟩:=rank_at r z k h
   exact ⟨j+1,by simpa using h1,by simpa using h2,by rw [List.take_succ_cons,List.count_cons,h3,e2];simp⟩
def codeN (v:Nat):Nat→Nat
 | 0=>0
 | n+1=>codeN v n*2+v / 2 ^ n % 2
theorem codeN_lt (v:Nat):∀ n,codeN v n < 2 ^ n
 | 0=>by simp [codeN]
 | n+1=>by have:=codeN_lt v n;simp only [codeN,Nat.pow_succ];omega
def NoAt (ls:List Int)(v m:Nat):Prop:=∀ j,j < ls.length→ls.getD j 0=(m:Int)→codeAt ls j≠(codeN v m:Int)
theorem codeAt_of (ls:List Int)(m j:Nat)(hm:1≤m)(hz:ls.getD j 0=(m:Int)):codeAt ls j=fC (cntsL ls) m+(((ls.take j).count (m:Int):Nat):Int):=by
 unfold codeAt
 rw [if_pos (by omega),hz,Int.toNat_natCast]
theorem hit_at (ls:List Int)(v m:Nat)(hm:1≤m)(h0:0≤(codeN v m:Int) - fC (cntsL ls) m)(h1:(codeN v m:Int) - fC (cntsL ls) m < ((ls.count (m:Int):Nat):Int)):
  ∃ j,j < ls.length∧ls.getD j 0=(m:Int)∧codeAt ls j=(codeN v m:Int)∧posAt ls j=sN (cnt0 ls) m+((codeN v m:Int) - fC (cntsL ls) m):=by
 obtain ⟨k,hk⟩:∃ k:Nat,(codeN v m:Int) - fC (cntsL ls) m=(k:Int):=⟨((codeN v m:Int) - fC (cntsL ls) m).toNat,by omega⟩
 obtain ⟨j,h2,h3,h4⟩:=rank_at ls (m:Int) k (by omega)
 refine ⟨j,h2,h3,?_,?_⟩
 ·rw [codeAt_of ls m j hm h3,h4];omega
 ·unfold posAt;rw [h3,Int.toNat_natCast,h4,hk]
theorem no_at (ls:List Int)(v m:Nat)(hm:1≤m)(h:¬ (0≤(codeN v m:Int) - fC (cntsL ls) m∧(codeN v m:Int) - fC (cntsL ls) m < ((ls.count (m:Int):Nat):Int))):NoAt ls v m:=by
 intro j hj hz e
 rw [codeAt_of ls m j hm hz] at e
 have h1:=count_step ls j hj
 have h2:=count_all ls (m:Int) (j+1)
 rw [hz] at h1
 omega
def ReadS (ls:List Int)(T v p:Nat)(s f:Int)(q:Nat):Prop:=
 (∃ n i:Nat,1≤n∧n≤T∧i < ls.length∧ls.getD i 0=(n:Int)∧codeAt ls i=(codeN v n:Int)∧(∀ m,1≤m→m < n→NoAt ls v m)∧s=(i:Int)∧f=0∧q=p+n) ∨
 ((∀ m,1≤m→m≤T→NoAt ls v m)∧s=0∧f=(if kindS ls=3∨(T=0∧0 < sN (cnt0 ls) 16) then 2 else 3)∧q=p)
def RdG (w:World)(S:Nat→Prop)(ao:Option Addr)(zs:List Int):Prop:=
 ∀ i,i < zs.length→∃ g off,ao=some ⟨g,off,none⟩∧S g∧w.cell? ⟨g,off+i,none⟩=some (.int .i64 (zs.getD i 0))
theorem RdG.kept {S T:Nat→Prop}{w w':World}{ao:Option Addr}{zs:List Int}(h:RdG w S ao zs)(hk:Kept T w w')(hs:∀ k,S k→¬ T k):RdG w' S ao zs:=fun i hi=>by
 obtain ⟨g,o,h1,h2,h3⟩:=h i hi
 exact ⟨g,o,h1,h2,(World.cell?_of_block (hk.block _ (World.block_lt_of_cell? w _ h3) (hs g h2))).trans h3⟩
theorem RdG.room {S:Nat→Prop}{w:World}{ao:Option Addr}{zs:List Int}(h:RdG w S ao zs):RdI w w.heap.size ao zs:=fun i hi=>by
 obtain ⟨g,o,h1,h2,h3⟩:=h i hi
 exact ⟨g,o,h1,World.block_lt_of_cell? w _ h3,h3⟩
structure DecG (ls:List Int)(D:Nat)(S:Nat→Prop)(w:World):Prop where
 lt:S D
 all:∃ pa P pc,DecSt D w (cnt0 ls) (firstsP (cntsL ls) 16) (fromP (cnt0 ls) 16) (.slice pa P.length pc) (kindS ls == 3)∧RdG w S pa P∧((P.length:Nat):Int)=sN (cnt0 ls) 16∧
  ∀ i,i < ls.length→0 < ls.getD i 0→P.getD (posAt ls i).toNat 0=(i:Int)
theorem DecNew.toG {ls:List Int}{D lo:Nat}{w:World}(h:DecNew ls D lo w):DecG ls D (fun k=>lo≤k) w:=by
 obtain ⟨Y,M,P,h0,h0',h1,h2,h3,h4⟩:=h
 exact ⟨h0',_,P,M,h1,fun t ht=>⟨Y,0,rfl,h0,by rw [Nat.zero_add];exact h2 t ht⟩,h3,h4⟩
theorem DecG.kept {S T:Nat→Prop}{ls:List Int}{D:Nat}{w w':World}(h:DecG ls D S w)(hk:Kept T w w')(hs:∀ k,S k→¬ T k):DecG ls D S w':=by
 obtain ⟨pa,P,pc,h1,h2,h3,h4⟩:=h.all
 exact ⟨h.lt,pa,P,pc,h1.kept hk (hs D h.lt),h2.kept hk hs,h3,h4⟩
theorem DecG.mono {S T:Nat→Prop}{ls:List Int}{D:Nat}{w:World}(h:DecG ls D S w)(hs:∀ k,S k→T k):DecG ls D T w:=by
 obtain ⟨pa,P,pc,h1,h2,h3,h4⟩:=h.all
 exact ⟨hs D h.lt,pa,P,pc,h1,fun i hi=>by obtain ⟨g,o,k1,k2,k3⟩:=h2 i hi;exact ⟨g,o,k1,hs g k2,k3⟩,h3,h4⟩
theorem read_callsG (ls:List Int)(D:Nat)(S:Nat→Prop)(R:Nat)(ao:Option Addr)(cap:Nat)(bs:List Int)(p T:Nat)(w:World)(hd:DecG ls D S w)(hr:Rdr w R ao cap bs p)(hBR:¬ S R)(hs:Small 15 ls)(hl:ls.length≤320)(hT:min3 15 (8*bs.length - p)=T):
  Calls Tryz.prog 159 #[.pointer (some ⟨D,0,none⟩),.pointer (some ⟨R,0,none⟩)] w fun e w'=>∃ (s f:Int) (q:Nat),e = .returned (.tuple #[.int .i64 s,.int .i64 f])∧ReadS ls T (bitsAt bs p T) p s f q∧Rdr w' R ao cap bs q∧Kept (OneB R) w w':=by
 have hT15:T≤15∧p+T≤8*bs.length:=by
  have:=hr.2.2.2.1
  unfold min3 at hT;omega
 have HPk:=Hd (peek_any w R ao cap bs p 15 hr T hT)
 have hvl:=bitsAt_lt bs p T
 obtain ⟨v,hv⟩:∃ v,v=bitsAt bs p T:=⟨_,rfl⟩
 rw [← hv] at HPk hvl ⊢
 have hv2:v < 32768:=Nat.lt_of_lt_of_le hvl (by have:=Nat.pow_le_pow_right (n:=2) (by decide) hT15.1;simpa using this)
 obtain ⟨hDB,pa,P,pc,hD,hP,hM,hPos⟩:=hd
 have HD:=Hd hD;have HP:=Hd hP;have HMl:=Hd hM;have HPos:=Hd hPos;have HRd:=Hd hr;have HS:=Hd hs
 have hT1:=hT15.1
 have hT2:=hT15.2
 clear hv hvl hD hP hM hPos hr hT hT15 hs
 go_enter Tryz.func159,Tryz.ntmps159
 go_wp2_with fail
 refine HPk.out.mono ?_
 rintro e w1 ⟨rfl,hk⟩
 have HK1:=Hd hk
 clear hk
 go_wp2
 go_loopw [9,8,6,10] (fun v9 v8 v6 _v10 wr=>∃ m:Nat,v9 = .int .i64 ((m:Int)+1)∧v8 = .int .i64 (codeN v m:Int)∧v6 = .int .u32 ((v / 2 ^ m:Nat):Int)∧m≤T∧Hid (∀ k,1≤k→k≤m→NoAt ls v k)∧Hid (Kept NoB w wr)) (fun v9 _ _ _ _=>T+1 - (intOf v9).toNat)
 case atStart=>exact ⟨0,rfl,rfl,by simp,by omega,Hd (fun k h1 h2=>by omega),HK1⟩
 case round=>
  obtain ⟨m,rfl,rfl,rfl,hm,HNo,HK⟩:=hrel
  by_cases hlt:(m:Int)+1≤T
  ·obtain ⟨q,hq⟩:∃ q:Nat,q=m+1:=⟨_,rfl⟩
   have hq2:(m:Int)+1=(q:Int):=by omega
   have hq15:q < 16:=by omega
   have hcl:=codeN_lt v m
   have hpw:2 ^ m≤2 ^ 14:=Nat.pow_le_pow_right (by decide) (by omega)
   have hcs:codeN v q=codeN v m*2+v / 2 ^ m % 2:=by rw [hq];rfl
   have hsh:v / 2 ^ q=v / 2 ^ m / 2:=by rw [hq,Nat.pow_succ,Nat.div_div_eq_div_mul]
   have hxl:v / 2 ^ m≤v:=Nat.div_le_self _ _
   obtain ⟨X,hX⟩:∃ X,X=v / 2 ^ m:=⟨_,rfl⟩
   rw [← hX] at hcs hsh hxl ⊢
   obtain ⟨cm,hcm⟩:∃ cm,cm=codeN v m:=⟨_,rfl⟩
   rw [← hcm] at hcs hcl ⊢
   have e1:bits .and .u32 (X:Int) 1=((X % 2:Nat):Int):=and1_u32d X (by omega)
   obtain ⟨b,hb⟩:∃ b,b=X % 2:=⟨_,rfl⟩
   have hb2:b < 2:=by omega
   rw [← hb] at e1 hcs
   have e2:IntKind.i64.wrap (b:Int)=(b:Int):=IntWalk.i64_in _ (by omega)
   obtain ⟨cq,hcq⟩:∃ cq,cq=codeN v q:=⟨_,rfl⟩
   rw [← hcq] at hcs
   have e3:(cm:Int)*2+(b:Int)=(cq:Int):=by omega
   obtain ⟨Y,hY⟩:∃ Y,Y=X / 2:=⟨_,rfl⟩
   have e4:((X:Nat):Int) / 2=(Y:Int):=by omega
   rw [← hY] at hsh
   have hcq2:cq < 100000:=by omega
   have d1:=(HD.out.kept HK.out (fun h=>h)).atF q hq15
   rw [firstsP_get _ _ hq15] at d1
   have d2:=(HD.out.kept HK.out (fun h=>h)).atC q hq15
   rw [cnt0_get _ _ hq15,if_neg (by omega)] at d2
   have hfb:=fC_bd (cntsL ls) (cnts_bd ls hl) q (by omega)
   have hcb:=List.count_le_length (l:=ls) (a:=(q:Int))
   have hhit:=hit_at ls v q (by omega)
   have hno:=no_at ls v q (by omega)
   rw [← hcq] at hhit hno
   obtain ⟨fq,hfq⟩:∃ fq,fq=fC (cntsL ls) q:=⟨_,rfl⟩
   obtain ⟨nq',hnq⟩:∃ c,c=ls.count (q:Int):=⟨_,rfl⟩
   rw [← hfq] at d1 hfb hhit hno
   rw [← hnq] at d2 hcb hhit hno
   have e5:IntKind.i64.wrap ((cq:Int) - fq)=(cq:Int) - fq:=IntWalk.i64_in _ (by omega)
   have HHit:=Hd hhit;have HNoq:=Hd hno;have HQ:=Hd hq;have HSh:=Hd hsh;have HCq:=Hd hcq
   have b1:(q:Int) < 16:=by omega
   have HX:=Hd hX
   rw [hq2] at hlt ⊢
   clear hhit hno hq hsh hX hY hcm hb hcs hcq hfq hnq hpw hq2 hcl
   by_cases h0:0≤(cq:Int) - fq
   ·by_cases h1:(cq:Int) - fq < (nq':Int)
    ·obtain ⟨j,hj,hz,hca,hpo⟩:=HHit.out h0 h1
     have HJ:=Hd (show ReadS ls T v p (j:Int) 0 (p+q) from .inl ⟨q,j,by have:=HQ.out;omega,by omega,hj,hz,by rw [← HCq.out];exact hca,fun k h1 h2=>HNo.out k h1 (by have:=HQ.out;omega),rfl,rfl,rfl⟩)
     have hTk:=take_yes wr R ao cap bs p q (HRd.out.keptNo HK.out) (by omega) (by omega)
     have hg0:decide (0≤(cq:Int) - fq)=true:=decide_eq_true h0
     have hg1:decide ((cq:Int) - fq < (nq':Int))=true:=decide_eq_true h1
     have HTk:=Hd hTk
     have HPo:=Hd hpo;have HZj:=Hd hz;have HJl:=Hd hj
     clear hTk hj hz hca hpo
     go_wp2_with fail
     refine HTk.out.mono ?_
     rintro e w3 ⟨rfl,hr3,hk3⟩
     have hko:Kept (OneB R) w w3:=(HK.out.mono (fun _ _ h=>h.elim)).trans hk3
     have hsb:∀ k,S k→¬ OneB R k:=fun k h e=>by unfold OneB at e;exact hBR (e ▸ h)
     have hD3:=HD.out.kept hko (hsb D hDB)
     have hP3:=HP.out.kept hko hsb
     have x0:=hD3.atP
     have x1:=hD3.atM q hq15
     rw [fromP_get _ _ _ hq15 hq15] at x1
     have hjb:=HS.out.getD j HJl.out
     have hpos:=pos_in ls hl j q HJl.out HZj.out (by have:=HQ.out;omega) hq15
     obtain ⟨pN,hpN⟩:∃ pN:Nat,(pN:Int)=posAt ls j:=⟨(posAt ls j).toNat,by have:=sN_bd ls hl q;omega⟩
     have hpl:pN < P.length:=by have:=HMl.out;omega
     have hpv:P.getD pN 0=(j:Int):=by
      have:=HPos.out j HJl.out (by rw [HZj.out];have:=HQ.out;omega)
      rw [← hpN,Int.toNat_natCast] at this
      exact this
     obtain ⟨g,off,rfl,_,x2⟩:=hP3 pN hpl
     rw [hpv] at x2
     have hsb2:=sN_bd ls hl q
     have hpo:=HPo.out
     rw [← hpN] at hpo
     obtain ⟨sq,hsq⟩:∃ sq,sq=sN (cnt0 ls) q:=⟨_,rfl⟩
     rw [← hsq] at hpo x1 hsb2
     have e6:IntKind.i64.wrap (sq+((cq:Int) - fq))=(pN:Int):=by rw [IntWalk.i64_in _ (by omega)];omega
     have b2:(pN:Int) < (P.length:Int):=by omega
     obtain ⟨Pl,hPl⟩:∃ Pl,Pl=P.length:=⟨_,rfl⟩
     rw [← hPl] at x0 b2 hpl
     have HR3:=Hd hr3;have HKo:=Hd hko
     clear hko hsb hD3 hP3 hjb hpos hpN hpv hsb2 hpo hsq hPl hk3 hr3 d1 d2
     go_upto_region 11 with fail
     go_quiet (fail)
     have hkd:Kept NoB w3 (w3.drewN nq):=(Kept.refl NoB w3).drewN nq
     have HR4:=Hd (HR3.out.keptNo hkd);have HK4:=Hd (HKo.out.trans (hkd.mono (fun _ _ h=>h.elim)))
     clear hkd
     go_wp2
     go_ret2
     exact ⟨_,_,_,rfl,HJ.out,HR4.out,HK4.out⟩
    ·have hg0:decide (0≤(cq:Int) - fq)=true:=decide_eq_true h0
     have hg1:decide ((cq:Int) - fq < (nq':Int))=false:=decide_eq_false h1
     have hn2:=HNoq.out (by omega)
     have hall:∀ k,1≤k→k≤q→NoAt ls v k:=fun k h1 h2=>by
      by_cases e:k=q
      ·subst e;exact hn2
      ·exact HNo.out k h1 (by have:=HQ.out;omega)
     have HAll:=Hd hall
     clear hn2 hall
     go_wp2
     go_roundw
     case rel=>exact ⟨q,by go_num,by rw [HCq.out],by rw [HSh.out],by omega,HAll,HK⟩
     case measure=>have:=HQ.out;simp [intOf];omega
   ·have hg0:decide (0≤(cq:Int) - fq)=false:=decide_eq_false h0
    have hn2:=HNoq.out (by omega)
    have hall:∀ k,1≤k→k≤q→NoAt ls v k:=fun k h1 h2=>by
     by_cases e:k=q
     ·subst e;exact hn2
     ·exact HNo.out k h1 (by have:=HQ.out;omega)
    have HAll:=Hd hall
    clear hn2 hall
    go_wp2
    go_roundw
    case rel=>exact ⟨q,by go_num,by rw [HCq.out],by rw [HSh.out],by omega,HAll,HK⟩
    case measure=>have:=HQ.out;simp [intOf];omega
  ·have hmT:m=T:=by omega
   subst hmT
   have hD4:=HD.out.kept HK.out (fun h=>h)
   have x0:=hD4.atP
   have x1:=hD4.atB
   have hml:=HMl.out
   obtain ⟨Pl,hPl⟩:∃ Pl,Pl=P.length:=⟨_,rfl⟩
   rw [← hPl] at x0 hml
   have HNo2:=Hd (show ∀ f:Int,f=(if kindS ls=3∨(m=0∧0 < sN (cnt0 ls) 16) then 2 else 3)→ReadS ls m v p 0 f p from fun f hf => .inr ⟨HNo.out,rfl,hf,rfl⟩)
   have HPl:=Hd hml
   have HKd:=Hd (show (kindS ls == 3)=(kindS ls == 3) from rfl)
   by_cases hk3:kindS ls=3
   ·have hb:(kindS ls == 3)=true:=by simpa using hk3
    rw [hb] at x1
    have HF:=Hd (HNo2.out 2 (by rw [if_pos (.inl hk3)]))
    clear hk3 hb hml hPl hD4
    go_wp2
    go_ret2
    exact ⟨0,2,rfl,_,HF.out,HRd.out.keptNo HK.out,HK.out.mono (fun _ _ h=>h.elim)⟩
   ·have hb:(kindS ls == 3)=false:=by simpa using hk3
    rw [hb] at x1
    by_cases hm0:m=0
    ·have g1:((m:Int) == 0)=true:=by simp;omega
     by_cases hp0:(0:Int) < (Pl:Int)
     ·have HF:=Hd (HNo2.out 2 (by rw [if_pos (.inr ⟨hm0,by omega⟩)]))
      have g2:decide ((0:Int) < (Pl:Int))=true:=decide_eq_true hp0
      clear hk3 hb hml hPl hD4 hm0
      go_wp2
      go_ret2
      exact ⟨0,2,rfl,_,HF.out,HRd.out.keptNo HK.out,HK.out.mono (fun _ _ h=>h.elim)⟩
     ·have HF:=Hd (HNo2.out 3 (by rw [if_neg (fun h=>by rcases h with h | h;exact hk3 h;omega)]))
      have g2:decide ((0:Int) < (Pl:Int))=false:=decide_eq_false hp0
      clear hk3 hb hml hPl hD4 hm0
      go_wp2
      go_ret2
      exact ⟨0,3,rfl,_,HF.out,HRd.out.keptNo HK.out,HK.out.mono (fun _ _ h=>h.elim)⟩
    ·have g1:((m:Int) == 0)=false:=by simp;omega
     have HF:=Hd (HNo2.out 3 (by rw [if_neg (fun h=>by rcases h with h | h;exact hk3 h;omega)]))
     clear hk3 hb hml hPl hD4
     go_wp2
     go_ret2
     exact ⟨0,3,rfl,_,HF.out,HRd.out.keptNo HK.out,HK.out.mono (fun _ _ h=>h.elim)⟩
end Go.Proofs.YtfmjfgmbjdhogaaGreatDoor
namespace Go.Proofs.YtfmjfgmbjdhogaaGreatDoor
open Go.RowKit
theorem get_mem' {Z:List Int}{p:Nat}(h:p < Z.length):Z.getD p 0∈Z:=by
 have:Z.getD p 0=Z[p]:=by simp [List.getD,h]
 rw [this];exact List.getElem_mem h
theorem counts_long (a:Option Addr)(c n:Nat)(w:World)(hl:320 < n):
  Calls Tryz.prog 133 #[.slice a n c] w fun e w'=>∃ cs,cs.length=16∧e = .returned (.tuple #[.agg (arrC cs),.bool false])∧Kept NoB w w':=by
 have hA2:Arr16 w.heap.size ((w.alloc (.cells (arrC zer16) 194)).alloc (.cells (arrC zer16) 194)) zer16:=⟨rfl,by
  rw [heap_alloc_old _ _ (by simp)];exact heap_alloc_new w _⟩
 have hA4:Arr16 (w.heap.size+1) ((w.alloc (.cells (arrC zer16) 194)).alloc (.cells (arrC zer16) 194)) zer16:=⟨rfl,heap_alloc2_new w _ _⟩
 obtain ⟨zs,hzs⟩:∃ zs,zs=zer16:=⟨_,rfl⟩
 have hzl:zs.length=16:=by rw [hzs];rfl
 have hA4':Arr16 (w.heap.size+1) ((w.alloc (.cells (arrC zer16) 194)).alloc (.cells (arrC zer16) 194)) zs:=by rw [hzs];exact hA4
 have hst:=store16 hA2 zs hzl
 have hF2:=hA2.row zs hzl
 have hK0:Kept NoB w (((w.alloc (.cells (arrC zer16) 194)).alloc (.cells (arrC zer16) 194)).setRow w.heap.size (arrC zs)):=(((Kept.refl _ _).alloc _).alloc _).setRow (.inr (Nat.le_refl _)) _
 have hze:arrC zer16=#[.int .i64 0,.int .i64 0,.int .i64 0,.int .i64 0,.int .i64 0,.int .i64 0,.int .i64 0,.int .i64 0,.int .i64 0,.int .i64 0,.int .i64 0,.int .i64 0,.int .i64 0,.int .i64 0,.int .i64 0,.int .i64 0]:=rfl
 rw [hze] at hst hF2 hK0 hA4'
 have HF:=Hd hA4';have HF2:=Hd hF2;have HK0:=Hd hK0
 have hsz:(arrC zs).size=16:=by rw [arrC_size,hzl]
 clear hA2 hA4 hA4' hze hF2 hK0 hzs
 go_enter Tryz.func133,Tryz.ntmps133
 go_wp2_with (refine wpList_load_row rfl 194 (.tmp 4) rfl (w.heap.size+1) rfl 194 (arrC zs) (0,0) (.array 16 3) HF.out.obj Tryz.underlying194 rfl (by rw [hsz];exact info16) ?_)
 refine bodyPost_ret (results_cell_tmp rfl _ _ w.heap.size 194 (arrC zs) (0,0) (.array 16 3) rfl HF2.out.obj Tryz.underlying194 rfl (by rw [hsz];exact info16)) rfl ?_
 exact ⟨zs,hzl,rfl,HK0.out⟩
theorem counts_bad (a:Option Addr)(c B:Nat)(ls:List Int)(w:World)(hr:RdI w B a ls)(hb:¬ Small 15 ls)(hl:ls.length≤320)(hall:AllI ls):
  Calls Tryz.prog 133 #[.slice a ls.length c] w fun e w'=>∃ cs,cs.length=16∧e = .returned (.tuple #[.agg (arrC cs),.bool false])∧Kept NoB w w':=by
 have HR:=Hd hr;have HS:=Hd hb;have HAll:=Hd hall
 obtain ⟨n,hn⟩:∃ n,n=ls.length:=⟨_,rfl⟩
 have HN:=Hd hn
 rw [← hn] at hl ⊢
 clear hr hb hn hall
 go_enter Tryz.func133,Tryz.ntmps133
 go_wp2
 have hA2:Arr16 w.heap.size ((w.alloc (.cells (arrC zer16) 194)).alloc (.cells (arrC zer16) 194)) zer16:=⟨rfl,by
  rw [heap_alloc_old _ _ (by simp)];exact heap_alloc_new w _⟩
 have hA4:Arr16 (w.heap.size+1) ((w.alloc (.cells (arrC zer16) 194)).alloc (.cells (arrC zer16) 194)) (cntsL (ls.take 0)):=⟨cnts_len _,by
  rw [List.take_zero,cnts_nil];exact heap_alloc2_new w _ _⟩
 have HA2:=Hd hA2;have HA4:=Hd hA4
 have HK0:Hid (Kept NoB w ((w.alloc (.cells (arrC zer16) 194)).alloc (.cells (arrC zer16) 194))):=Hd (((Kept.refl _ _).alloc _).alloc _)
 clear hA2 hA4
 obtain ⟨G,hG⟩:∃ G,G=w.heap.size:=⟨_,rfl⟩
 rw [← hG] at HA2 HA4 ⊢
 have HG:=Hd hG
 clear hG
 go_loopw [13,6] (fun v13 _v6 wr=>∃ (j:Nat),v13 = .int .i64 (j:Int)∧j≤n∧Hid (Arr16 G wr zer16)∧Hid (Arr16 (G+1) wr (cntsL (ls.take j)))∧Hid (Small 15 (ls.take j))∧Hid (Kept NoB w wr)) (fun v13 _ _=>n - (intOf v13).toNat)
 case atStart=>exact ⟨0,rfl,by omega,HA2,HA4,Hd (fun z hz=>by simp at hz),HK0⟩
 case round=>
  clear HA2 HA4 HK0
  obtain ⟨j,rfl,hj,HA2,HA4,HSm,HK⟩:=hrel
  by_cases hlt:(j:Int) < n
  ·obtain ⟨g,off,rfl,_,hc0⟩:=HR.out j (by have:=HN.out;omega)
   have hc:=HK.out.cell hc0
   have hai:=HAll.out (ls.getD j 0) (get_mem' (by have:=HN.out;omega))
   by_cases hb:¬ (0≤ls.getD j 0∧ls.getD j 0≤15)
   ·obtain ⟨y,hy⟩:∃ y,y=ls.getD j 0:=⟨_,rfl⟩
    rw [← hy] at hb hc hai
    obtain ⟨cs,hcs⟩:∃ cs,cs=cntsL (ls.take j):=⟨_,rfl⟩
    have hcl:cs.length=16:=by rw [hcs,cnts_len]
    have hA4:=HA4.out
    rw [← hcs] at hA4
    have hsz:(arrC cs).size=16:=by rw [arrC_size,hcl]
    have hst:=store16 HA2.out cs hcl
    have HF:=Hd hA4
    have HF2:=Hd (HA2.out.row cs hcl)
    have HK2:=Hd (HK.out.setRow (B:=G) (.inr (by rw [← HG.out];exact Nat.le_refl _)) (arrC cs))
    have hbb:y < 0∨(¬ y < 0∧15 < y):=by omega
    clear hy hcs hA4 hb hc0
    rcases hbb with h1 | ⟨h1,h2⟩
    ·go_wp2_with (refine wpList_load_row rfl 194 (.tmp 4) rfl (G+1) rfl 194 (arrC cs) (0,0) (.array 16 3) HF.out.obj Tryz.underlying194 rfl (by rw [hsz];exact info16) ?_)
     refine bodyPost_ret (results_cell_tmp rfl _ _ G 194 (arrC cs) (0,0) (.array 16 3) rfl HF2.out.obj Tryz.underlying194 rfl (by rw [hsz];exact info16)) rfl ?_
     exact ⟨cs,hcl,rfl,HK2.out⟩
    ·go_wp2_with (refine wpList_load_row rfl 194 (.tmp 4) rfl (G+1) rfl 194 (arrC cs) (0,0) (.array 16 3) HF.out.obj Tryz.underlying194 rfl (by rw [hsz];exact info16) ?_)
     refine bodyPost_ret (results_cell_tmp rfl _ _ G 194 (arrC cs) (0,0) (.array 16 3) rfl HF2.out.obj Tryz.underlying194 rfl (by rw [hsz];exact info16)) rfl ?_
     exact ⟨cs,hcl,rfl,HK2.out⟩
   have hb:=Decidable.not_not.1 hb
   clear hai
   obtain ⟨z,hz⟩:∃ z:Nat,(z:Int)=ls.getD j 0:=⟨(ls.getD j 0).toNat,by omega⟩
   rw [← hz] at hc hb
   have hst:ls.take (j+1)=ls.take j++[(z:Int)]:=by
    rw [hz,List.take_succ_eq_append_getElem (by have:=HN.out;omega)];simp [List.getD,show j < ls.length by have:=HN.out;omega]
   have hz16:z < 16:=by omega
   have hsm2:Small 15 (ls.take (j+1)):=by
    rw [hst]
    intro y hy
    rcases List.mem_append.1 hy with h | h
    ·exact HSm.out y h
    ·rw [List.mem_singleton.1 h];omega
   have HSm2:=Hd hsm2
   clear hsm2
   have hcell:=HA4.out.cell z hz16
   have hcb:0≤(cntsL (ls.take j)).getD z 0∧(cntsL (ls.take j)).getD z 0≤320:=by
    rw [cnts_get _ _ hz16]
    have:=List.count_le_length (l:=ls.take j) (a:=(z:Int))
    rw [List.length_take] at this
    have:=HN.out
    omega
   have hsn:=cnts_snoc (ls.take j) z hz16
   rw [← hst] at hsn
   obtain ⟨x,hx⟩:∃ x,x=(cntsL (ls.take j)).getD z 0:=⟨_,rfl⟩
   rw [← hx] at hcell hcb hsn
   have hfz:wr.frozen? ⟨G+1,z,none⟩=false:=obj_free HA4.out.obj z
   have hput:=HA4.out.put z (x+1)
   rw [← hsn] at hput
   have hkp:Kept NoB w (wr.setCell ⟨G+1,z,none⟩ (.int .i64 (x+1))):=Kept.setCell (p:=⟨G+1,z,none⟩) HK.out (.inr (by rw [← HG.out];simp)) _
   have hA2':Arr16 G (wr.setCell ⟨G+1,z,none⟩ (.int .i64 (x+1))) zer16:=HA2.out.kept (S:=fun k=>k=G+1) (Kept.setCell (S:=fun k=>k=G+1) (p:=⟨G+1,z,none⟩) (Kept.refl _ wr) (.inl rfl) _) (by omega)
   have HP:=Hd hput;have HKp:=Hd hkp;have HA2n:=Hd hA2'
   clear hz hst hsn hput hkp hx hc0 hA2'
   go_wp2
   go_roundw
   case rel=>exact ⟨j+1,by go_num,by omega,HA2n,HP,HSm2,HKp⟩
   case measure=>simp [intOf];omega
  ·refine (HS.out ?_).elim
   have:=HSm.out
   rw [List.take_of_length_le (by have:=HN.out;omega)] at this
   exact this
structure MayL (ls:List Int):Prop where
 len:ls.length≤320
 small:Small 15 ls
theorem counts_no (a:Option Addr)(c B:Nat)(ls:List Int)(w:World)(hr:RdI w B a ls)(h:¬ MayL ls)(hall:AllI ls):
  Calls Tryz.prog 133 #[.slice a ls.length c] w fun e w'=>∃ cs,cs.length=16∧e = .returned (.tuple #[.agg (arrC cs),.bool false])∧Kept NoB w w':=by
 by_cases hl:ls.length≤320
 ·exact counts_bad a c B ls w hr (fun hs=>h ⟨hl,hs⟩) hl hall
 ·exact counts_long a c _ w (by omega)
theorem kind_no (a:Option Addr)(c B:Nat)(ls:List Int)(w:World)(hr:RdI w B a ls)(h:¬ MayL ls)(hall:AllI ls):
  Calls Tryz.prog 162 #[.slice a ls.length c] w fun e w'=>e = .returned (.int .i64 0)∧Kept NoB w w':=by
 have HCt:=Hd (counts_no a c B ls w hr h hall)
 obtain ⟨n,hn⟩:∃ n,n=ls.length:=⟨_,rfl⟩
 rw [← hn] at HCt ⊢
 clear hr h hall hn
 go_enter Tryz.func162,Tryz.ntmps162
 go_wp2_with fail
 refine HCt.out.mono ?_
 rintro e w1 ⟨cs,hcl,rfl,hk⟩
 have HK:=Hd hk
 clear hk
 have hA0:Arr16 w1.heap.size (w1.alloc (.cells (arrC zer16) 194)) zer16:=⟨rfl,heap_alloc_new w1 _⟩
 have hst:=store16 hA0 cs hcl
 have hK1:Kept NoB w ((w1.alloc (.cells (arrC zer16) 194)).setRow w1.heap.size (arrC cs)):=(HK.out.alloc _).setRow (.inr HK.out.size) _
 have hze:arrC zer16=#[.int .i64 0,.int .i64 0,.int .i64 0,.int .i64 0,.int .i64 0,.int .i64 0,.int .i64 0,.int .i64 0,.int .i64 0,.int .i64 0,.int .i64 0,.int .i64 0,.int .i64 0,.int .i64 0,.int .i64 0,.int .i64 0]:=rfl
 have hsz:(arrC cs).size=16:=by rw [arrC_size,hcl]
 rw [hze] at hst hK1
 have HK1:=Hd hK1
 clear hA0 hK1 hze
 go_wp2
 go_ret
 exact ⟨rfl,HK1.out⟩
open Classical in
/-- The kind of any lengths. -/
noncomputable def kindA (ls:List Int):Int:=if MayL ls then kindS ls else 0
theorem kind_any (a:Option Addr)(c B:Nat)(ls:List Int)(w:World)(hr:RdI w B a ls)(hall:AllI ls):
  Calls Tryz.prog 162 #[.slice a ls.length c] w fun e w'=>e = .returned (.int .i64 (kindA ls))∧Kept NoB w w':=by
 unfold kindA
 by_cases h:MayL ls
 ·rw [if_pos h];exact kind_calls a c B ls w hr h.small h.len
 ·rw [if_neg h];exact kind_no a c B ls w hr h hall
theorem kindA_of (ls:List Int):kindA ls=0∨kindA ls=1∨kindA ls=2∨kindA ls=3∨kindA ls=4∨kindA ls=5:=by
 unfold kindA
 split
 ·exact .inr (kindS_of ls)
 ·exact .inl rfl
end Go.Proofs.YtfmjfgmbjdhogaaGreatDoor
namespace Go.Proofs.YtfmjfgmbjdhogaaGreatDoor
open Go.RowKit
theorem revN_code (v:Nat):∀ n,revN n v=codeN v n
 | 0=>rfl
 | n+1=>by rw [revN,codeN,revN_code v n,Nat.mul_comm]
theorem codeN_pre (v m:Nat):∀ d,codeN v (m+d) / 2 ^ d=codeN v m
 | 0=>by simp
 | d+1=>by
  have h:=codeN_pre v m d
  have hb:v / 2 ^ (m+d) % 2 < 2:=Nat.mod_lt _ (by decide)
  rw [show m+(d+1)=m+d+1 from by omega,codeN,Nat.pow_succ,Nat.mul_comm (2 ^ d) 2,← Nat.div_div_eq_div_mul]
  rw [show (codeN v (m+d)*2+v / 2 ^ (m+d) % 2) / 2=codeN v (m+d) from by omega,h]
theorem codeN_pre_int (v m d:Nat):((codeN v (m+d):Nat):Int) / 2 ^ d=((codeN v m:Nat):Int):=by
 rw [← codeN_pre v m d];push_cast;rfl
theorem code_one (ls:List Int)(hl:ls.length≤320)(hs:Small 15 ls)(i k:Nat)(hi:i < ls.length)(hk:k < ls.length)(h0:0 < ls.getD i 0)(he:ls.getD i 0=ls.getD k 0)(hc:codeAt ls i=codeAt ls k):i=k:=by
 by_cases e:i=k
 ·exact e
 ·have:=(code_free ls hl hs i k hi hk e h0 0 (by simpa using he)).1
  simp at this
  exact absurd hc.symm this
theorem read_det (ls:List Int)(hl:ls.length≤320)(hs:Small 15 ls)(T v p:Nat)(s f s' f':Int)(q q':Nat)(h:ReadS ls T v p s f q)(h':ReadS ls T v p s' f' q'):s=s'∧f=f'∧q=q':=by
 rcases h with ⟨n,i,h1,h2,h3,h4,h5,h6,rfl,rfl,rfl⟩ | ⟨h1,rfl,rfl,rfl⟩
 ·rcases h' with ⟨n',i',k1,k2,k3,k4,k5,k6,rfl,rfl,rfl⟩ | ⟨k1,rfl,rfl,rfl⟩
  ·have e:n=n':=by
    rcases Nat.lt_trichotomy n n' with e | e | e
    ·exact absurd h5 (k6 n h1 e i h3 h4)
    ·exact e
    ·exact absurd k5 (h6 n' k1 e i' k3 k4)
   subst e
   have:=code_one ls hl hs i i' h3 k3 (by omega) (by rw [h4,k4]) (by rw [h5,k5])
   subst this
   exact ⟨rfl,rfl,rfl⟩
  ·exact absurd h5 (k1 n h1 h2 i h3 h4)
 ·rcases h' with ⟨n',i',k1,k2,k3,k4,k5,k6,rfl,rfl,rfl⟩ | ⟨k1,rfl,rfl,rfl⟩
  ·exact absurd k5 (h1 n' k1 k2 i' k3 k4)
  ·exact ⟨rfl,rfl,rfl⟩
theorem fC_kraft (ls:List Int):∀ n:Nat,n≤14→(fC (cntsL ls) (n+1)+((ls.count ((n+1:Nat):Int):Nat):Int))*((2 ^ (14 - n):Nat):Int)=sumK ls (n+1)
 | 0,_=>by
  simp [sumK,fC,kpart]
 | n+1,h=>by
  have ih:=fC_kraft ls n (by omega)
  rw [fC_succ _ _ (by omega),cnts_get ls _ (by omega),sumK,← ih]
  have hk:kpart ((n+1+1:Nat):Int)=((2 ^ (14 - (n+1)):Nat):Int):=by
   unfold kpart
   rw [if_pos (by omega)]
   have:15 - ((n+1+1:Nat):Int).toNat=14 - (n+1):=by omega
   rw [this]
  rw [hk]
  have hp:((2 ^ (14 - n):Nat):Int)=2*((2 ^ (14 - (n+1)):Nat):Int):=by
   have:14 - n=(14 - (n+1))+1:=by omega
   rw [this,Nat.pow_succ];push_cast;omega
  rw [hp]
  generalize ((2 ^ (14 - (n+1)):Nat):Int)=P
  generalize fC (cntsL ls) (n+1)=A
  generalize ((ls.count ((n+1:Nat):Int):Nat):Int)=B
  generalize ((ls.count ((n+1+1:Nat):Int):Nat):Int)=C
  simp only [Int.add_mul,Int.mul_add]
  rw [Int.mul_assoc,Int.mul_assoc]
theorem kraft_few:∀ ls:List Int,Small 15 ls→kraftL ls≤16384*((ls.length:Int) - ((ls.count 0:Nat):Int))
 | [],_=>by simp [kraftL]
 | z :: r,h=>by
  have ih:=kraft_few r (fun y hy=>h y (List.mem_cons_of_mem _ hy))
  have hz:=h z (List.mem_cons_self ..)
  rw [kraftL,List.count_cons,List.length_cons]
  by_cases e:z=0
  ·subst e
   have:kpart 0=0:=by decide
   rw [this];simp;omega
  ·have e2:(z == 0)=false:=by simpa using e
   rw [e2]
   obtain ⟨k,hk⟩:∃ k:Nat,z=(k:Int)+1:=⟨(z - 1).toNat,by omega⟩
   have:kpart z≤16384:=by
    unfold kpart
    rw [if_pos (by omega),hk]
    have h1:15 - ((k:Int)+1).toNat≤14:=by omega
    have:=Nat.pow_le_pow_right (n:=2) (by decide) h1
    have h3:(2:Nat) ^ 14=16384:=by decide
    omega
   simp;omega
theorem kraft_ref (ls:List Int)(hs:Small 15 ls)(h:refS ls=0):kraftL ls≤32768:=by
 have hf:=kraft_few ls hs
 have hc:=List.count_le_length (l:=ls) (a:=(0:Int))
 by_cases h1:ls.length=ls.count 0
 ·omega
 ·by_cases h2:ls.length=ls.count 0+1∧ls.count 1=1
  ·omega
  ·by_cases h3:32768 < kraftL ls
   ·have:kindS ls=4:=by unfold kindS;rw [if_neg h1,if_neg h2,if_pos h3]
    unfold refS at h
    rw [if_pos (.inl this)] at h
    omega
   ·omega
theorem fC_end (ls:List Int)(hs:Small 15 ls)(hl:ls.length≤320)(h:refS ls=0)(n:Nat)(h1:1≤n)(h15:n≤15):fC (cntsL ls) n+((ls.count (n:Int):Nat):Int)≤((2 ^ n:Nat):Int):=by
 have hk:=kraft_ref ls hs h
 have h15e:fC (cntsL ls) 15+((ls.count ((15:Nat):Int):Nat):Int)≤32768:=by
  have h2:=fC_kraft ls 14 (by omega)
  rw [show (14 - 14:Nat)=0 from rfl,sumK_all ls hs] at h2
  simp at h2 ⊢
  omega
 rcases Nat.lt_or_ge n 15 with hlt | hge
 ·have hg:=fC_grow ls hl n h1 h15 (14 - n) (by omega)
  rw [show n+1+(14 - n)=15 from by omega,show 14 - n+1=15 - n from by omega] at hg
  have hp:((2 ^ n:Nat):Int)*((2 ^ (15 - n):Nat):Int)=32768:=by
   rw [← Int.natCast_mul,← Nat.pow_add,show n+(15 - n)=15 from by omega];rfl
  have hpos:(0:Int) < ((2 ^ (15 - n):Nat):Int):=by have:=Nat.two_pow_pos (15 - n);omega
  refine Int.le_of_mul_le_mul_right ?_ hpos
  rw [hp]
  omega
 ·have:n=15:=by omega
  subst this
  exact h15e
theorem code_lt (ls:List Int)(hs:Small 15 ls)(hl:ls.length≤320)(h:refS ls=0)(i n:Nat)(hi:i < ls.length)(hz:ls.getD i 0=(n:Int))(h1:1≤n):codeAt ls i < ((2 ^ n:Nat):Int):=by
 have hb:=hs.getD i hi
 have h2:=fC_end ls hs hl h n h1 (by omega)
 rw [codeAt_of ls n i h1 hz]
 have h3:=count_step ls i hi
 have h4:=count_all ls (n:Int) (i+1)
 rw [hz] at h3
 omega
theorem codes_read2 {w w':World}{zs:List Int}{e:Ending}(h:CodesP w zs e w'):∃ a c,e = .returned (.tuple #[.slice a zs.length c,.int .i64 0])∧w'.ownsRow 0 71 1 (.slice a zs.length c) zs.length (zs.map (.int .u32))∧(∀ i,i < zs.length→∃ g,a=some ⟨g,0,none⟩∧w'.cell? ⟨g,i,none⟩=some (.int .u32 (zs.getD i 0)))∧Kept NoB w w':=by
 obtain ⟨a,c,rfl,ho,hk⟩:=h
 refine ⟨a,c,rfl,ho,?_,hk⟩
 intro i hi
 rcases ho.2 with ⟨_,hz⟩ | ⟨g,cc,cur,hv,_⟩
 ·omega
 ·simp at hv
  obtain ⟨rfl,rfl⟩:=hv
  exact ⟨g,rfl,by rw [ho.cellAt i (by omega)];simp [List.getD,hi]⟩
theorem at_same (w:World)(R:Nat)(ao:Option Addr)(cap:Nat)(bs:List Int)(p:Nat)(h:Rdr w R ao cap bs p):
  Calls Tryz.prog 97 #[.pointer (some ⟨R,0,none⟩)] w fun e w'=>e = .returned (.int .i64 p)∧w=w':=by
 have c1:w.cell? ⟨R,1,none⟩=some (.int .i64 p):=by simpa using obj_cell h.1 1
 clear h
 go_enter Tryz.func97,Tryz.ntmps97
 go_wp2
 go_ret
 exact ⟨rfl,rfl⟩
theorem min3_at (L p:Nat)(h:p≤L):∃ T:Nat,min3 15 ((L:Int) - p)=T∧T≤15∧p+T≤L∧(T=0→p=L):=by
 refine ⟨min 15 (L - p),?_,by omega,by omega,by omega⟩
 unfold min3;omega
theorem ReadS.step {ls:List Int}{T v p:Nat}{s f:Int}{q:Nat}(h:ReadS ls T v p s f q):(f=0∧p < q∧q≤p+T∧0 < T)∨(f≠0∧q=p):=by
 rcases h with ⟨n,i,h1,h2,_,_,_,_,_,rfl,rfl⟩ | ⟨_,_,rfl,rfl⟩
 ·exact .inl ⟨rfl,by omega,by omega,by omega⟩
 ·refine .inr ⟨?_,rfl⟩
  split <;> omega
def spanL (s:Int):Nat:=if s=16 then 3 else if s=17 then 3 else if s=18 then 11 else 1
def spanB (s:Int):Nat:=if s=16 then 2 else if s=17 then 3 else if s=18 then 7 else 0
def spanM (s:Int):Int:=if s=16 then 3 else if s=17 then 7 else if s=18 then 127 else 0
def valS (l:List Int)(s:Int):Int:=if s=16 then l.getD (l.length - 1) 0 else if 16 < s then 0 else s
def okRun (l:List Int)(s x:Int):Prop:=0≤s∧s≤18∧0≤x∧x≤spanM s∧(s=16→l≠[])
instance (l:List Int) (s x:Int):Decidable (okRun l s x):=by unfold okRun;infer_instance
def moreL (l:List Int)(s x:Int):List Int:=l++List.replicate (spanL s+x.toNat) (valS l s)
theorem moreL_len (l:List Int)(s x:Int):(moreL l s x).length=l.length+(spanL s+x.toNat):=by simp [moreL]
def runAll (n:Int):List Int→List (Int × Int)→Option (List Int)
 | l,[]=>some l
 | l,(s,x) :: r=>if okRun l s x∧((moreL l s x).length:Int)≤n then runAll n (moreL l s x) r else none
theorem valS_lt (l:List Int)(hl:∀ z∈l,0≤z∧z≤15)(s:Int)(h:0≤s∧s≤18):0≤valS l s∧valS l s≤15:=by
 unfold valS
 split
 ·by_cases h0:l.length - 1 < l.length
  ·have:l.getD (l.length - 1) 0=l[l.length - 1]:=by simp [List.getD,h0]
   rw [this];exact hl _ (List.getElem_mem h0)
  ·have:l.getD (l.length - 1) 0=0:=by simp [List.getD,List.getElem?_eq_none (Nat.le_of_not_lt h0)]
   omega
 ·split <;> omega
def Told (v:Int)(d:Nat)(rs:List (Int × Int)):Prop:=
 ∀ (N:Int) (p:List Int) (rest:List (Int × Int)),(p.length:Int)≤N→runAll N p (rs++rest)=if ((p.length+d:Nat):Int)≤N then runAll N (p++List.replicate d v) rest else none
theorem Told.nil (v:Int):Told v 0 []:=fun N p rest h=>by
 rw [List.nil_append,if_pos (by simpa using h),List.replicate_zero,List.append_nil]
theorem Told.step {v:Int}{d k:Nat}{rs:List (Int × Int)}{s x:Int}(h:Told v d rs)(hok:∀ p:List Int,okRun (p++List.replicate d v) s x)(hv:∀ p:List Int,valS (p++List.replicate d v) s=v)(hk:k=spanL s+x.toNat):Told v (d+k) (rs++[(s,x)]):=by
 intro N p rest hp
 rw [List.append_assoc,h N p _ hp]
 have hm:moreL (p++List.replicate d v) s x=p++List.replicate (d+k) v:=by
  unfold moreL
  rw [hv p,← hk,List.append_assoc,List.replicate_append_replicate]
 have hl:(p++List.replicate (d+k) v).length=p.length+(d+k):=by simp
 by_cases h1:((p.length+d:Nat):Int)≤N
 ·rw [if_pos h1]
  show runAll N (p++List.replicate d v) ((s,x) :: rest)=_
  rw [runAll,hm,hl]
  by_cases h2:((p.length+(d+k):Nat):Int)≤N
  ·rw [if_pos ⟨hok p,h2⟩,if_pos h2]
  ·rw [if_neg (fun h=>h2 h.2),if_neg h2]
 ·rw [if_neg h1,if_neg (by omega)]
theorem rep_last (p:List Int)(d:Nat)(v:Int)(hd:1≤d):(p++List.replicate d v).getD ((p++List.replicate d v).length - 1) 0=v:=by
 have hl:(p++List.replicate d v).length=p.length+d:=by simp
 rw [hl,List.getD,List.getElem?_append_right (by omega),List.getElem?_replicate,if_pos (by omega)]
 rfl
theorem Told.again {v:Int}{d m:Nat}{rs:List (Int × Int)}(h:Told v d rs)(hd:1≤d)(hm:m≤3):Told v (d+(3+m)) (rs++[(16,(m:Int))]):=by
 refine h.step (fun p=>⟨by decide,by decide,by omega,?_,fun _ he=>?_⟩) (fun p=>?_) ?_
 ·show (m:Int)≤3;omega
 ·have:=congrArg List.length he;simp at this;omega
 ·show (if (16:Int)=16 then _ else _)=v
  rw [if_pos rfl]
  exact rep_last p d v hd
 ·show 3+m=3+(m:Int).toNat;omega
theorem Told.one {v:Int}{d:Nat}{rs:List (Int × Int)}(h:Told v d rs)(hv:0≤v∧v≤15):Told v (d+1) (rs++[(v,0)]):=by
 have e1:spanL v=1:=by unfold spanL;rw [if_neg (by omega),if_neg (by omega),if_neg (by omega)]
 have e2:spanM v=0:=by unfold spanM;rw [if_neg (by omega),if_neg (by omega),if_neg (by omega)]
 refine h.step (fun p=>⟨hv.1,by omega,by omega,by rw [e2];omega,fun he=>by omega⟩) (fun p=>?_) (by rw [e1];rfl)
 unfold valS
 rw [if_neg (by omega),if_neg (by omega)]
theorem Told.few {d m:Nat}{rs:List (Int × Int)}(h:Told 0 d rs)(hm:m≤7):Told 0 (d+(3+m)) (rs++[(17,(m:Int))]):=by
 refine h.step (fun p=>⟨by decide,by decide,by omega,?_,fun he=>by omega⟩) (fun p=>rfl) ?_
 ·show (m:Int)≤7;omega
 ·show 3+m=3+(m:Int).toNat;omega
theorem Told.many {d m:Nat}{rs:List (Int × Int)}(h:Told 0 d rs)(hm:m≤127):Told 0 (d+(11+m)) (rs++[(18,(m:Int))]):=by
 refine h.step (fun p=>⟨by decide,by decide,by omega,?_,fun he=>by omega⟩) (fun p=>rfl) ?_
 ·show (m:Int)≤127;omega
 ·show 11+m=11+(m:Int).toNat;omega
def Tells (l:List Int)(rs:List (Int × Int)):Prop:=
 ∀ (N:Int) (rest:List (Int × Int)),0≤N→runAll N [] (rs++rest)=if (l.length:Int)≤N then runAll N l rest else none
theorem Tells.nil:Tells [] []:=fun N rest h=>by rw [List.nil_append,if_pos (by simpa using h)]
theorem Tells.more {l:List Int}{rs rs':List (Int × Int)}{v:Int}{d:Nat}(h:Tells l rs)(h':Told v d rs'):Tells (l++List.replicate d v) (rs++rs'):=by
 intro N rest hN
 rw [List.append_assoc,h N _ hN]
 have hl:(l++List.replicate d v).length=l.length+d:=by simp
 by_cases h1:(l.length:Int)≤N
 ·rw [if_pos h1,h' N l rest h1,hl]
 ·rw [if_neg h1,if_neg (by rw [hl];omega)]
theorem kindA_bad {ls:List Int}(h:¬ MayL ls):kindA ls=0:=by unfold kindA;rw [if_neg h]
noncomputable def fullB (ls:List Int):Bool:=decide (kindA ls=3∨kindA ls=2)
noncomputable def mayB (lit dist:List Int):Bool:=decide (0 < lit.getD 256 0) && fullB lit && (fullB dist || decide (kindA dist=1))
theorem full_may {ls:List Int}(h:fullB ls=true):MayL ls:=by
 apply Classical.byContradiction
 intro hn
 have:=kindA_bad hn
 unfold fullB at h
 rw [this] at h
 exact absurd h (by decide)
theorem full_any (a:Option Addr)(c B:Nat)(ls:List Int)(w:World)(hr:RdI w B a ls)(hall:AllI ls):
  Calls Tryz.prog 169 #[.slice a ls.length c] w fun e w'=>e = .returned (.bool (fullB ls))∧Kept NoB w w':=by
 have HK:=Hd (kind_any a c B ls w hr hall)
 obtain ⟨n,hn⟩:∃ n,n=ls.length:=⟨_,rfl⟩
 rw [← hn] at HK ⊢
 have hk:=kindA_of ls
 unfold fullB
 clear hr hall hn
 generalize kindA ls=k at hk HK ⊢
 go_enter Tryz.func169,Tryz.ntmps169
 go_wp2_with fail
 with_reducible refine HK.out.mono ?_
 rintro e w1 ⟨rfl,hk1⟩
 have HK1:=Hd hk1
 clear hk1 HK
 rcases hk with rfl | rfl | rfl | rfl | rfl | rfl
 all_goals
  go_wp2
  go_ret
  exact ⟨rfl,HK1.out⟩
theorem may_any (a:Option Addr)(c B:Nat)(lit:List Int)(b:Option Addr)(d C:Nat)(dist:List Int)(w:World)(hr:RdI w B a lit)(hall:AllI lit)(hr2:RdI w C b dist)(hall2:AllI dist)(hl:257≤lit.length):
  Calls Tryz.prog 146 #[.slice a lit.length c,.slice b dist.length d] w fun e w'=>e = .returned (.bool (mayB lit dist))∧Kept NoB w w':=by
 have keep:∀ {W:World} {B:Nat} {a:Option Addr} {zs:List Int},RdI w B a zs→Kept NoB w W→RdI W B a zs:=fun h hk i hi=>by
  obtain ⟨g,o,h1,h2,h3⟩:=h i hi
  exact ⟨g,o,h1,h2,hk.cell h3⟩
 have HF1:=Hd (full_any a c B lit w hr hall)
 have HF2:Hid (∀ W,Kept NoB w W→Calls Tryz.prog 169 #[.slice b dist.length d] W fun e w'=>e = .returned (.bool (fullB dist))∧Kept NoB W w'):=Hd (fun W hk=>full_any b d C dist W (keep hr2 hk) hall2)
 have HK2:Hid (∀ W,Kept NoB w W→Calls Tryz.prog 162 #[.slice b dist.length d] W fun e w'=>e = .returned (.int .i64 (kindA dist))∧Kept NoB W w'):=Hd (fun W hk=>kind_any b d C dist W (keep hr2 hk) hall2)
 obtain ⟨g,o,rfl,_,hc⟩:=hr 256 (by omega)
 obtain ⟨n,hn⟩:∃ n,n=lit.length:=⟨_,rfl⟩
 obtain ⟨m,hm⟩:∃ m,m=dist.length:=⟨_,rfl⟩
 rw [← hn] at HF1 hl ⊢
 rw [← hm] at HF2 HK2 ⊢
 have hl2:(256:Int) < (n:Int):=by omega
 unfold mayB
 generalize fullB lit=f1 at HF1 ⊢
 generalize fullB dist=f2 at HF2 ⊢
 generalize kindA dist=k at HK2 ⊢
 generalize lit.getD 256 0=x at hc ⊢
 clear hr hall hr2 hall2 hn hm keep
 go_enter Tryz.func146,Tryz.ntmps146
 by_cases hx:0 < x
 ·go_wp2_with fail
  with_reducible refine HF1.out.mono ?_
  rintro e w1 ⟨rfl,hk1⟩
  have HK1:=Hd hk1
  clear hk1 HF1
  cases f1 with
  | false=>
   go_wp2
   go_ret
   exact ⟨by simp,HK1.out⟩
  | true=>
   have HC:=Hd (HF2.out w1 HK1.out)
   go_wp2_with fail
   with_reducible refine HC.out.mono ?_
   rintro e w2 ⟨rfl,hk2⟩
   have HKw:=Hd (HK1.out.trans hk2)
   clear hk2 HC
   cases f2 with
   | true=>
    go_wp2
    go_ret
    exact ⟨by simp [hx],HKw.out⟩
   | false=>
    have HC:=Hd (HK2.out w2 HKw.out)
    go_wp2_with fail
    with_reducible refine HC.out.mono ?_
    rintro e w3 ⟨rfl,hk3⟩
    have HKx:=Hd (HKw.out.trans hk3)
    clear hk3 HC
    by_cases hk:k=1
    ·have g1:(k == 1)=true:=by rw [hk];rfl
     go_wp2
     go_ret
     exact ⟨by simp [hx,hk],HKx.out⟩
    ·have g1:(k == 1)=false:=by simp [hk]
     go_wp2
     go_ret
     exact ⟨by simp [hx,hk],HKx.out⟩
 ·have hx2:decide (0 < x)=false:=decide_eq_false hx
  go_wp2
  go_ret
  exact ⟨by simp [hx2],Kept.refl _ _⟩
noncomputable def headB (lit dist:List Int):Bool:=decide (257≤lit.length∧lit.length≤286∧1≤dist.length∧dist.length≤30) && mayB lit dist
end Go.Proofs.YtfmjfgmbjdhogaaGreatDoor
