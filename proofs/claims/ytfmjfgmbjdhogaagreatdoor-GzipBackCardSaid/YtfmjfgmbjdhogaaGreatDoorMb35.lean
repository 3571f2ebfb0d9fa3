import Derived.Test.YtfmjfgmbjdhogaaGreatDoorMb34
import Derived.Great.BuildSlice
set_option linter.unusedVariables false
set_option linter.unusedSimpArgs false
set_option maxRecDepth 20000
set_option maxHeartbeats 8000000
namespace Go.Proofs.YtfmjfgmbjdhogaaGreatDoor
open Go.RowKit
def crcL (L:List UInt8):Nat:=crcOf 0 (nats (nb L))
def memB (g:GzP)(L body:List UInt8):List UInt8:=headG g++body++leB 4 (crcL L)++leB 4 L.length
theorem headG_len (g:GzP)(h:g.Ok):10≤(headG g).length∧(headG g).length≤70000:=by
 have h1:=h.extra
 have h2:=h.name
 have h3:=h.comm
 have e1:(gz1 g).length=10:=by unfold gz1;simp [leB_len]
 have e2:(gzX g).length≤65537:=by unfold gzX;split <;> simp [leB_len];omega
 have e3:∀ s:List UInt8,s.length≤1000→(txtB s).length≤1001:=by intro s hs;unfold txtB;split <;> simp;omega
 have e4:=e3 _ h2
 have e5:=e3 _ h3
 unfold headG gz4
 simp only [List.length_append,e1]
 split <;> simp only [leB_len,List.length_nil] <;> omega
theorem member_yes (w:World)(a:Option Addr)(c:Nat)(g:GzP)(lv:Int)(H k:Nat)(ps:List (List UInt8))(hg:g.Ok)(hr:Reads w a (nb g.extra))(hc:g.extra.length≤c)(h0:a=none→c=0)
  (hk:k=ps.length) (hk4:k≤1000) (hp:∀ W,Kept NoB w W→∀ i,i < k→∃ o c,W.cell? ⟨H,i,none⟩=some (.slice o (ps.getD i []).length c)∧Reads W o (nb (ps.getD i []))∧(o=none→c=0)∧(ps.getD i []).length≤c∧c≤maxLen) (hlen:ps.flatten.length≤32768)
  (hT:DeB w) (hlv : -9223372036854775808≤lv∧lv≤9223372036854775807):
  Calls Tryz.prog 17 #[.agg (gzV a c g),.int .i64 lv,.slice (some ⟨H,0,none⟩) k k] w fun e w'=>∃ (a2:Option Addr) (m c2:Nat) (body:List UInt8) (qs:List (Nat × Nat)),e = .returned (.tuple #[.slice a2 m c2,.bool true])∧Hid (BySt w w' a2 m c2 (memB g ps.flatten body))∧Hid (PackedP lv ps.flatten (nb body) qs):=by
 have HHd:=Hd (fun W (h:Kept NoB w W)=>gzhead_yes W a c g hg (hr.keptNo h) hc h0)
 have hhl:=headG_len g hg
 have HP:=Hd hp;have HT:=Hd hT;have HKe:=Hd hk
 have hsz:(Tryz.prog.info? 42).map (·.size)=some (gzV a c g).size:=infoGz
 obtain ⟨arr,harr⟩:∃ arr,arr=gzV a c g:=⟨_,rfl⟩
 rw [← harr] at HHd hsz ⊢
 have HSz:=Hd hsz
 clear hg hr hc h0 hp hT hk hsz harr
 go_enter Tryz.func17,Tryz.ntmps17
 go_upto_region 1 with fail
 have hob:(w.alloc (.cells arr 42)).heap[w.heap.size]?=some (.cells arr 42 (0,0)):=heap_alloc_new _ _
 have hk0:Kept NoB w (w.alloc (.cells arr 42)):=(Kept.refl _ _).alloc _
 generalize w.alloc (.cells arr 42)=wb at hob hk0 ⊢
 generalize w.heap.size=X at hob ⊢
 have HOb:=Hd hob;have HHb:=Hd (HHd.out wb hk0);have HK0:=Hd hk0
 clear hob HHd hk0
 go_wp2_with (refine wpList_load_row rfl 42 (.tmp 3) rfl X rfl 42 arr (0,0) _ HOb.out Tryz.underlying42 rfl HSz.out ?_)
 go_wp2_with fail
 refine HHb.out.mono ?_
 rintro e w1 ⟨a1,m1,c1,rfl,hS1⟩
 have HS1:Hid (BySt w w1 a1 m1 c1 (headG g)):=Hd ⟨hS1.len,hS1.own,HK0.out.trans hS1.kept,fun k e=>Nat.le_trans HK0.out.size (hS1.fresh k e)⟩
 have hml:m1≤70000:=by rw [hS1.len];exact hhl.2
 clear hS1 HHb HOb HK0
 go_wp2_with fail
 go_loopw [10,12,22] (fun v10 _ v22 wr=>∃ i n:Nat,v10 = .int .i64 (n:Int)∧v22 = .int .i64 (i:Int)∧i≤k∧n≤32768∧wr=w1∧Hid (n=(ps.take i).flatten.length)) (fun _ _ v22 _=>k - (intOf v22).toNat)
 case atStart=>exact ⟨0,0,rfl,rfl,Nat.zero_le _,by omega,rfl,Hd rfl⟩
 case round=>
  obtain ⟨i,n,rfl,rfl,hi,hn,rfl,HN⟩:=hrel
  by_cases hik:i < k
  ·obtain ⟨o,co,c0,hro,hno,hlo,hco⟩:=HP.out wr HS1.out.kept i hik
   have hfs:=flat_step ps i (by rw [← HKe.out];exact hik)
   have hfl:=flat_le ps (i+1)
   obtain ⟨pl,hpl⟩:∃ pl,pl=(ps.getD i []).length:=⟨_,rfl⟩
   rw [← hpl] at c0 hlo
   have hnn:n+pl=(ps.take (i+1)).flatten.length:=by rw [hfs,List.length_append,← HN.out,hpl]
   have hn2:n+pl≤32768:=by omega
   have HNn:=Hd hnn
   have hco2:=hco
   unfold maxLen at hco2
   clear hro hno hfs hfl hpl hnn hco
   go_wp2
   go_roundw
   case rel=>exact ⟨i+1,n+pl,by go_num,by go_num,by omega,by omega,by trivial,Hd HNn.out⟩
   case measure=>simp [intOf];omega
  ·have hik2:i=k:=by omega
   subst hik2
   have HNl:Hid (n=ps.flatten.length):=Hd (by rw [HN.out,List.take_of_length_le (by rw [← HKe.out];exact Nat.le_refl _)])
   clear HN hi hik
   have HAll:=Hd (allPack_any wr lv H i ps HKe.out hk4 (fun j hj=>by
    obtain ⟨o,co,h1,h2,h3,_,_⟩:=HP.out wr HS1.out.kept j hj
    exact ⟨o,co,h1,h2,h3⟩) hlen (HT.out.kept HS1.out.kept) hlv)
   have hparts:∀ W,Kept NoB w W→Parts W (some ⟨H,0,none⟩) (ps.map nb):=fun W hk=>by
    by_cases h0:i=0
    ·left
     have:ps.length=0:=by rw [← HKe.out];exact h0
     rw [List.eq_nil_of_length_eq_zero this];rfl
    ·right
     obtain ⟨o,co,h1,_⟩:=HP.out W hk 0 (by omega)
     refine ⟨H,0,rfl,World.block_lt_of_cell? W _ h1,fun j hj=>?_⟩
     have hj2:j < i:=by rw [HKe.out];simpa using hj
     obtain ⟨o,co,h1,h2,h3,h4,h5⟩:=HP.out W hk j hj2
     have e:(ps.map nb).getD j []=nb (ps.getD j []):=by
      have hjp:j < ps.length:=by rw [← HKe.out];exact hj2
      simp [List.getD,hjp]
     rw [e,nb_len,Nat.zero_add]
     exact ⟨o,co,h1,h2,h4,h5,h3⟩
   have hallp:AllP (ps.map nb):=by
    intro p hp
    obtain ⟨q,_,rfl⟩:=List.mem_map.1 hp
    exact nb_all q
   have hflat:(ps.map nb).flatten=nb ps.flatten:=by unfold nb;rw [List.map_flatten]
   have HSum:Hid (∀ W T,Kept NoB w W→Tbl W T→Calls Tryz.prog 44 #[.pointer (some ⟨T,0,none⟩),.slice (some ⟨H,0,none⟩) i i] W fun e w'=>e = .returned (.int .u32 (crcL ps.flatten:Nat))∧Kept NoB W w'):=Hd (fun W T hk hT=>by
    have:=sum_any W T (some ⟨H,0,none⟩) i i (ps.map nb) hT (hparts W hk) hallp (by rw [List.length_map,HKe.out]) (by omega)
    rw [hflat] at this
    exact this)
   have hcl:crcL ps.flatten < 4294967296:=crc16_nat _
   clear hparts hallp hflat
   generalize hLe:ps.flatten=L at *
   have HLe:=Hd hLe
   obtain ⟨cr,hcr⟩:∃ cr,cr=crcL L:=⟨_,rfl⟩
   rw [← hcr] at HSum hcl
   have HCr:=Hd hcr
   clear hLe hcr
   go_wp2_with fail
   refine HAll.out.mono ?_
   rintro e w4 ⟨ao,c4,bs,qs,rfl,hP,hrd,hno,hcc,hk4'⟩
   have hall:=hP.all
   have hnu:=nb_un hall
   have hbl:bs.length≤40000:=by have h1:=hP.len;have h2:=hP.few;omega
   have HS4:=Hd (HS1.out.on hk4')
   have HPk:Hid (PackedP lv L (nb (un bs)) qs):=Hd (by rw [hnu];exact hP)
   have hrd2:Reads w4 ao (nb (un bs)):=by rw [hnu];exact hrd
   have hul:bs.length=(un bs).length:=by simp [un]
   obtain ⟨body,hbody⟩:∃ body,body=un bs:=⟨_,rfl⟩
   rw [← hbody] at HPk hrd2 hul
   obtain ⟨bl,hble⟩:∃ bl,bl=bs.length:=⟨_,rfl⟩
   rw [← hble] at hbl hul hcc ⊢
   have HRd:=Hd hrd2;have HUl:=Hd hul
   clear hP hrd hall hnu hbody hrd2 hul hk4' HAll hble
   cases ao with
   | none=>
    have hc0:=hno rfl
    subst hc0
    have hb0:bl=0:=by omega
    subst hb0
    have hbn:body=[]:=List.eq_nil_of_length_eq_zero HUl.out.symm
    have HS5:Hid (BySt w w4 a1 m1 c1 (headG g++body)):=Hd (by rw [hbn,List.append_nil];exact HS4.out)
    have HNt:=Hd (newt_any w4)
    clear hno
    go_wp2_with (first | (at_builtin;refine wpList_by_none rfl (.tmp 31) (.tmp 34) rfl HS4.out rfl rfl ?_) | fail)
    refine HNt.out.mono ?_
    rintro e w6 ⟨T,rfl,hT,hTl,hk6⟩
    have HS6:=Hd (HS5.out.on hk6)
    have HSm:=Hd (HSum.out w6 T HS6.out.kept hT)
    clear hT hTl hk6 HNt
    go_wp2_with fail
    refine HSm.out.mono ?_
    rintro e w7 ⟨rfl,hk7⟩
    have HA1:=Hd (appnum_any w w7 a1 m1 c1 _ cr 4 4 rfl (HS6.out.on hk7) (by omega) (by decide) (by omega))
    clear hk7 HSm
    go_wp2_with fail
    refine HA1.out.mono ?_
    rintro e w8 ⟨a8,c8,rfl,hS8⟩
    have HA2:=Hd (appnum_any w w8 a8 (m1+4) c8 _ n 4 4 rfl hS8 (by omega) (by decide) (by omega))
    clear hS8 HA1
    go_wp2_with fail
    refine HA2.out.mono ?_
    rintro e w9 ⟨a9,c9,rfl,hS9⟩
    have HS9:=Hd hS9
    clear hS9 HA2
    go_wp2
    go_ret2
    refine ⟨a9,_,c9,body,qs,rfl,Hd ?_,Hd (by rw [HLe.out];exact HPk.out)⟩
    rw [HLe.out]
    unfold memB
    rw [← HCr.out,← HNl.out]
    exact HS9.out
   | some ad=>
    clear hno
    go_wp2_with (first | (at_builtin;refine wpList_by_row rfl (.tmp 31) (.tmp 34) rfl HS4.out rfl ad c4 bl body HUl.out rfl HRd.out (by omega) ?_;intro a5 c5 w5 hS5;have HS5:=Hd hS5;have HNt:=Hd (newt_any w5);clear hS5) | fail)
    refine HNt.out.mono ?_
    rintro e w6 ⟨T,rfl,hT,hTl,hk6⟩
    have HS6:=Hd (HS5.out.on hk6)
    have HSm:=Hd (HSum.out w6 T HS6.out.kept hT)
    clear hT hTl hk6 HNt
    go_wp2_with fail
    refine HSm.out.mono ?_
    rintro e w7 ⟨rfl,hk7⟩
    have HA1:=Hd (appnum_any w w7 a5 (m1+bl) c5 _ cr 4 4 rfl (HS6.out.on hk7) (by omega) (by decide) (by omega))
    clear hk7 HSm
    go_wp2_with fail
    refine HA1.out.mono ?_
    rintro e w8 ⟨a8,c8,rfl,hS8⟩
    have HA2:=Hd (appnum_any w w8 a8 (m1+bl+4) c8 _ n 4 4 rfl hS8 (by omega) (by decide) (by omega))
    clear hS8 HA1
    go_wp2_with fail
    refine HA2.out.mono ?_
    rintro e w9 ⟨a9,c9,rfl,hS9⟩
    have HS9:=Hd hS9
    clear hS9 HA2
    go_wp2
    go_ret2
    refine ⟨a9,_,c9,body,qs,rfl,Hd ?_,Hd (by rw [HLe.out];exact HPk.out)⟩
    rw [HLe.out]
    unfold memB
    rw [← HCr.out,← HNl.out]
    exact HS9.out
theorem member_no (w:World)(lv:Int)(v:Value):Calls Tryz.prog 17 #[.agg #[.bool false,.bool false,.bool false,.slice none 0 0,.string ⟨#[]⟩,.string ⟨#[]⟩,.int .i64 0,.int .i64 0,.int .i64 256],.int .i64 lv,v] w fun e w'=>e = .returned (.tuple #[.slice none 0 0,.bool false])∧Kept NoB w w':=by
 have HNo:=Hd (fun W=>gzok_no W)
 have HHd:Hid (∀ W,Calls Tryz.prog 41 #[.agg #[.bool false,.bool false,.bool false,.slice none 0 0,.string ⟨#[]⟩,.string ⟨#[]⟩,.int .i64 0,.int .i64 0,.int .i64 256]] W fun e w'=>e = .returned (.tuple #[.slice none 0 0,.bool false])∧Kept NoB W w'):=Hd (fun W=>by
  go_enter Tryz.func41,Tryz.ntmps41
  go_wp2_with fail
  refine (HNo.out _).mono ?_
  rintro e w1 ⟨rfl,hk⟩
  have HK:=Hd (((Kept.refl NoB W).alloc _).trans hk)
  clear hk
  go_wp2
  go_ret2
  exact ⟨rfl,HK.out⟩)
 go_enter Tryz.func17,Tryz.ntmps17
 go_wp2_with fail
 refine (HHd.out _).mono ?_
 rintro e w1 ⟨rfl,hk⟩
 have HK:=Hd (((Kept.refl NoB w).alloc _).trans hk)
 clear hk
 go_wp2
 go_ret2
 exact ⟨rfl,HK.out⟩
theorem bytesW_putsN:∀ b:List Int,putsN (bytesW b)=num b
 | []=>rfl
 | x :: r=>by
  have e:bytesW (x :: r)=(x.toNat,8) :: bytesW r:=rfl
  rw [e,putsN,bytesW_putsN r,num]
  omega
theorem Puts.more {bs more:List Int}{qs:List (Nat × Nat)}(h:Puts bs 0 qs)(hl:bs.length=(wdN qs+7) / 8)(hm:AllB more):Puts (bs++more) 0 (qs++((0,8*bs.length - wdN qs) :: bytesW more)):=by
 obtain ⟨A,hA,hn⟩:=h.num
 have hA0:A=0:=by simpa using hA
 subst hA0
 rw [Nat.pow_zero,Nat.mul_one,Nat.zero_add] at hn
 have hlen:=h.len
 rw [Nat.zero_add] at hlen
 refine ⟨⟨0,by decide,?_⟩,?_,?_⟩
 ·rw [num_append,hn,Nat.pow_zero,Nat.mul_one,Nat.zero_add,putsN_append,putsN,bytesW_putsN,Nat.zero_add,Nat.mul_assoc,← Nat.pow_add,
   show 8*bs.length - wdN qs+wdN qs=8*bs.length by omega,show 256 ^ bs.length=2 ^ (8*bs.length) by rw [Nat.pow_mul]]
  rw [Nat.mul_comm]
 ·intro y hy
  rcases List.mem_append.1 hy with h1 | h1
  ·exact h.lt y h1
  ·rcases List.mem_cons.1 h1 with rfl | h1
   ·exact Nat.two_pow_pos _
   ·obtain ⟨x,hx,rfl⟩:=List.mem_map.1 h1
    have:=hm x hx
    show x.toNat < 256
    omega
 ·rw [wdN_append,wdN,bytesW_wd,List.length_append]
  omega
theorem PackedP.more {lv:Int}{L:List UInt8}{bs more:List Int}{qs:List (Nat × Nat)}(h:PackedP lv L bs qs)(hm:AllB more)(M:Nat)(hM:L.length≤M):Steps (bs++more) M 0 .block false [] (wdN qs) .fin true (nb L):=
 h.run2 _ _ M hM (h.puts.more h.len hm)
def ToldG (w:World)(bs:List Int)(e:Ending)(w':World):Prop:=
 ∃ ao cap,e = .returned (.slice ao bs.length cap)∧Hid (BySt w w' ao bs.length cap (un bs))
theorem sbytesG (w:World){T:TypeId}{cs:Array Value}{R L:Nat}{ao:Option Addr}{cap:Nat}{bs:List Int}{m:Nat}(h:Snk w T cs R L ao cap bs m)(hall:AllB bs):
  Calls Tryz.prog 58 #[.pointer (some ⟨R,0,none⟩)] w (ToldG w bs):=by
 have c0:w.cell? ⟨R,0,none⟩=some (.slice ao bs.length cap):=by rw [obj_cell h.obj 0,h.c0]
 have hr:=own_reads h.own rfl
 have hl:=h.sm
 clear h
 have HR:=Hd hr;clear hr
 go_enter Tryz.func58,Tryz.ntmps58
 go_wp2_with (go_at_call 54;refine (clone_any _ _ _ _ HR.out (by omega)).mono ?_;rintro e w1 ⟨ao',cap',rfl,ho,hf,hn,hk⟩)
 go_ret
 refine ⟨ao',cap',rfl,Hd ⟨by simp [un],?_,hk,hf⟩⟩
 rw [bc_nb,nb_un hall]
 exact ho
theorem infoutG {lo:Nat}{w:World}{D:Nat}{v:IV}{out:List Int}(h:InfE lo w D v out)(hs:out.length≤1000000):
  Calls Tryz.prog 33 #[.pointer (some ⟨D,0,none⟩)] w (ToldG w out):=by
 obtain ⟨ka,kc,hsk⟩:=own_shape h.sink.own
 have hS:Snk w 111 v.cs D lo ka kc out v.most:=⟨h.obj,by rw [← hsk];rfl,rfl,by rw [← hsk];exact h.sink.own,fun k hk=>h.sink.fresh k (by rw [hsk];exact hk),h.low,h.fit,h.big,hs,by decide,h.all⟩
 have HB:=Hd (sbytesG w hS h.all)
 clear h hS hsk
 go_enter Tryz.func33,Tryz.ntmps33
 go_wp2_with fail
 refine HB.out.mono ?_
 rintro e w1 ⟨a1,c1,rfl,h1⟩
 have HT:Hid (ToldG w out (.returned (.slice a1 out.length c1)) w1):=⟨a1,c1,rfl,h1⟩
 clear h1 HB
 go_wp2
 go_ret
 exact HT.out
def InfGR (w:World)(n:Nat)(L:List UInt8)(e:Ending)(w':World):Prop:=
 ∃ (oa:Option Addr) (ol oc:Nat),e = .returned (.tuple #[.slice oa ol oc,.int .i64 (n:Int),.int .i64 0,.int .i64 0])∧Hid (ol=L.length)∧Hid (BySt w w' oa ol oc L)
theorem feed_fin {lo:Nat}{w w':World}{D M:Nat}{b O:List Int}{P:Nat}(h:ItemsW lo w D (iv0 M) .block [] b 0 0 w')(hs:Steps b M 0 .block false [] P .fin true O):
  Kept (LoB lo) w w'∧∃ v',InfE lo w' D v' O∧v'.nx=5∧v'.er=0∧v'.us=(((P+7) / 8:Nat):Int)∧v'.at_=0:=by
 obtain ⟨hk,p,m,l,o,v',h1,hm,hp,h2⟩:=h
 refine ⟨hk,v',?_⟩
 have hst:Stuck b M p m l o:=by
  rcases h2 with ⟨hm,_⟩ | ⟨er,p1,m1,l1,o1,he,_,hi,_⟩ | ⟨p1,m1,l1,o1,S',hi,_⟩
  ·exact .inl hm
  ·exact .inr ⟨er,p1,m1,l1,o1,he,hi⟩
  ·exact .inr ⟨2,p1,m1,l1,o1,by decide,hi⟩
 obtain ⟨e1,e2,_,e4⟩:=Steps.det hs trivial (.inl rfl) h1 hst
 subst e1 e2 e4
 rcases h2 with ⟨_,hi,h5,h6,h7,h8⟩ | ⟨er,p1,m1,l1,o1,he,_,hi,_⟩ | ⟨p1,m1,l1,o1,S',hi,_⟩
 ·exact ⟨hi,h5,h6,by rw [h7,Nat.zero_add],h8⟩
 ·exact hi.elim
 ·exact hi.elim
theorem inflated_any (w:World)(bo:Option Addr)(n c:Nat)(B bs more:List Int)(lv:Int)(L:List UInt8)(qs:List (Nat × Nat))(z:Int)(M:Nat)(hB:B=bs++more)(hn:n=B.length)(hR:CurRow w bo c B)(hnl:n≤1000000)(hP:PackedP lv L bs qs)(hbs:bs.length≤256)(h0:0 < bs.length)
  (hz:z=(M:Int)) (hML:L.length≤M) (hLl:L.length≤900000) (hMl:M≤1000000):
  Calls Tryz.prog 45 #[.slice bo n c,.int .i64 z] w (InfGR w bs.length L):=by
 subst hz
 have hcap:n≤c:=by rw [hn];exact hR.cap
 obtain ⟨h,hh⟩:∃ h,h=min n 256:=⟨_,rfl⟩
 have hbn:bs.length≤n:=by rw [hn,hB,List.length_append];omega
 have hhn:h≤n:=by omega
 obtain ⟨o1,hs1,hp1⟩:=slg_h bo n c h B hn hhn hcap hR.nil
 obtain ⟨o2,hs2,hp2⟩:=slg_l bo n c h B hn hhn hcap hR.nil
 have hpc:(B.drop 0).take (h - 0)=bs++more.take (h - bs.length):=by
  show B.take h=_
  rw [hB,List.take_append,List.take_of_length_le (by omega)]
 have hmall:AllB (more.take (h - bs.length)):=by
  have:=hR.all
  rw [hB] at this
  exact AllB.take (fun x hx=>this x (List.mem_append_right _ hx)) _
 have hst:=hP.more hmall M hML
 have hsl:=fun W (hr:Reads W bo B)=>hp1.reads W hr
 rw [hpc] at hsl
 obtain ⟨pc,hpce⟩:∃ pc,pc=bs++more.take (h - bs.length):=⟨_,rfl⟩
 rw [← hpce] at hst hsl
 have hpl:pc.length=h:=by rw [hpce,← hpc];simp [← hn];omega
 have hpall:AllB pc:=by rw [hpce];intro x hx;rcases List.mem_append.1 hx with hx | hx;exact hP.all x hx;exact hmall x hx
 have hwd:(wdN qs+7) / 8=bs.length:=hP.len.symm
 have hnil:o1=none→c=0:=fun e=>hR.nil (hp1.nil.1 e)
 have hway:((n:Int)≤256∧h=n)∨((256:Int) < n∧h=256):=by omega
 have hmn:min (n:Int) 256=(h:Int):=by rcases hway with ⟨a,b⟩ | ⟨a,b⟩;rw [Int.min_eq_left a];omega;rw [Int.min_eq_right (by omega)];omega
 have hn0:(0:Int) < (n:Int):=by omega
 have HN:=Hd (infnew_any w (M:Int) M (by rw [if_neg (by omega)]) (by omega))
 have HSt:=Hd hst;have HSl:=Hd hsl;have HPl:=Hd hpl;have HPa:=Hd hpall;have HWd:=Hd hwd;have HNil:=Hd hnil;have HRd:=Hd hR.rd;have HHl:Hid (h≤256):=Hd (by omega)
 have HNbL:Hid ((nb L).length=L.length):=Hd (nb_len L)
 have hhc:h≤c:=by omega
 have hhb:h≤1000000:=by omega
 clear hB hn hR hP hh hbn hp1 hp2 hpc hmall hst hsl hpce hpl hpall hwd hnil hway
 go_enter Tryz.func45,Tryz.ntmps45
 go_wp2_with fail
 refine HN.out.mono ?_
 rintro e w1 ⟨D,rfl,hI,hk1⟩
 have hk2:Kept NoB w1 (w1.alloc (.cells #[.slice o1 h c] 22)):=(Kept.refl _ _).alloc _
 have hI2:Inf0 w.heap.size (w1.alloc (.cells #[.slice o1 h c] 22)) D (iv0 M) .block [] [] (fun _=>False):=by
  refine ⟨hI.obj.kept hk2 (fun e=>e),hI.low,nilrow,nilrow,⟨[],nilrow,⟨⟨[],rfl⟩,.inl rfl⟩,by decide⟩,hI.sep,(fun k hk=>hk.elim),hI.sR,hI.nx,hI.er,hI.fit,hI.big,hI.all,hI.allr,trivial,.inl rfl⟩
 have hDl:=obj_lt hI.obj
 have hf:=feed_new hI2 (by have:=hk1.size;have:=hk2.size;omega) w1.heap.size o1 c (by rw [HPl.out];exact cell_new 0 rfl) (by omega) (HSl.out _ (HRd.out.keptNo (hk1.trans hk2))) HNil.out (by rw [HPl.out];exact hhc) HPa.out (by rw [HPl.out];exact hhb)
  (fun p m' l' o' hs=>by have:=steps_bound HSt.out hs;rw [HNbL.out] at this;omega)
 have HF:=Hd hf;have HK1:=Hd (hk1.trans hk2)
 clear hI hI2 hk1 hk2 hDl hf HN
 go_wp2_with fail
 go_loopw [0,9] (fun v0 v9 wr=>v0 = .slice bo n c∧v9 = .int .i64 256∧wr=w1) (fun _ _ _=>0)
 case atStart=>exact ⟨rfl,rfl,rfl⟩
 case round=>
  obtain ⟨rfl,rfl,rfl⟩:=hrel
  go_wp2_with fail
  refine HF.out.mono ?_
  rintro e w3 ⟨rfl,hW⟩
  obtain ⟨hk3,v',hie,h5,h6,h7,h8⟩:=feed_fin hW HSt.out
  have hk3':Kept NoB w w3:=((HK1.out.mono (fun _ _ e=>e.elim)).trans hk3).lowNo
  have hs5:(v'.nx == 5)=true:=by rw [h5];rfl
  have HSta:=Hd (fun (W:World) (hk:Kept NoB w3 W)=>infstate_any W D v' (hie.obj.kept hk (fun e=>e)))
  rw [hs5,h6,h7,h8,HWd.out] at HSta
  have HCl:=Hd (fun (W:World) (hk:Kept NoB w3 W)=>infclose_over W D v' (hie.obj.kept hk (fun e=>e)) (.inl h5))
  have HOu:=Hd (fun (W:World) (hk:Kept NoB w3 W)=>infoutG (hie.turn (hk.mono (fun _ _ e=>e.elim)) (hie.obj.kept hk (fun e=>e)) rfl rfl) (by rw [HNbL.out];omega))
  have HK3:=Hd hk3'
  clear hW hk3 hie h5 h6 h7 h8 hk3' hs5 HF
  go_wp2_with fail
  refine (HSta.out w3 (Kept.refl _ _)).mono ?_
  rintro e w4 ⟨rfl,hk4⟩
  have HK4:=Hd hk4
  clear hk4
  go_wp2_with fail
  refine (HCl.out w4 HK4.out).mono ?_
  rintro e w5 ⟨rfl,hk5⟩
  have HK5:=Hd (HK4.out.trans hk5)
  clear hk5
  go_wp2_with fail
  refine (HSta.out w5 HK5.out).mono ?_
  rintro e w6 ⟨rfl,hk6⟩
  have HK6:=Hd (HK5.out.trans hk6)
  clear hk6
  go_wp2_with fail
  refine (HOu.out w6 HK6.out).mono ?_
  rintro e w7 ⟨oa,oc,rfl,HB7⟩
  go_wp2
  refine bodyPost_ret (results_tmp4 rfl _ _ _) rfl ?_
  have hb:=HB7.out
  rw [un_nb] at hb
  have hk:=HK3.out.trans HK6.out
  exact ⟨oa,_,oc,rfl,HNbL,Hd ⟨hb.len,hb.own,hk.trans hb.kept,fun k e=>Nat.le_trans hk.size (hb.fresh k e)⟩⟩
theorem infoGzB:(Tryz.prog.info? 42).map (fun i=>(i.zero,i.size,i.bytes))=some (some (.agg gz0),9,88):=by kernel_rfl
structure GzE where
 a:Option Addr
 k:Nat
 g:GzP
def gzCs (es:List GzE):List Value:=es.flatMap fun y=>(gzV y.a y.k y.g).toList
theorem gzV_len (a:Option Addr)(k:Nat)(g:GzP):(gzV a k g).toList.length=9:=rfl
theorem gzCs_at:∀ (es:List GzE) (i:Nat) (h:i < es.length) (j:Nat),j < 9→(gzCs es)[i*9+j]?=(gzV es[i].a es[i].k es[i].g)[j]?
 | [],i,h,_,_=>absurd h (Nat.not_lt_zero _)
 | y :: r,i,h,j,hj=>by
  have e:gzCs (y :: r)=(gzV y.a y.k y.g).toList++gzCs r:=rfl
  rw [e]
  cases i with
  | zero=>
   rw [Nat.zero_mul,Nat.zero_add,List.getElem?_append_left (by rw [gzV_len];exact hj)]
   rw [Array.getElem?_toList];rfl
  | succ i=>
   rw [List.getElem?_append_right (by rw [gzV_len];omega),gzV_len,show (i+1)*9+j - 9=i*9+j by omega]
   exact gzCs_at r i (by simpa using h) j hj
structure HdSt (lo:Nat)(w:World)(a:Option Addr)(l c:Nat)(es:List GzE):Prop where
 len:l=es.length
 own:w.ownsRow 0 42 9 (.slice a l c) l (gzCs es)
 fresh:∀ k,(Value.slice a l c).ownBlock=some k→lo≤k
theorem HdSt.start (lo:Nat)(w:World):HdSt lo w none 0 0 []:=⟨rfl,World.ownsRow_nil _ _ _ _,(fun k hk=>by simp [Value.ownBlock] at hk)⟩
theorem HdSt.keptS {S:Nat→Prop}{lo:Nat}{w w':World}{a:Option Addr}{l c:Nat}{es:List GzE}(h:HdSt lo w a l c es)(hk:Kept S w w')(hs:∀ k,(Value.slice a l c).ownBlock=some k→¬ S k):HdSt lo w' a l c es:=
 ⟨h.len,hk.row h.own hs,h.fresh⟩
theorem HdSt.no {lo:Nat}{w w':World}{a:Option Addr}{l c:Nat}{es:List GzE}(h:HdSt lo w a l c es)(hk:Kept NoB w w'):HdSt lo w' a l c es:=h.keptS hk (fun _ _ e=>e)
theorem HdSt.ne {lo:Nat}{w w0:World}{a b:Option Addr}{l c m d:Nat}{es:List GzE}{L:List UInt8}(h:HdSt lo w a l c es)(hb:BySt w0 w b m d L):∀ k,(Value.slice a l c).ownBlock=some k→¬ OwnB (.slice b m d) k:=by
 intro k hk hq
 rcases h.own.2 with ⟨hv,_⟩ | ⟨g,cc,cur,hv,_,hg,_⟩
 ·simp at hv;obtain ⟨rfl,_⟩:=hv;simp [Value.ownBlock] at hk
 ·simp at hv
  obtain ⟨rfl,rfl⟩:=hv
  simp [Value.ownBlock] at hk
  subst hk
  exact row_ne hb.own hg (by decide) g hq rfl
theorem BySt.ne {lo:Nat}{w w0:World}{a b:Option Addr}{l c m d:Nat}{es:List GzE}{L:List UInt8}(hb:BySt w0 w b m d L)(h:HdSt lo w a l c es):∀ k,(Value.slice b m d).ownBlock=some k→¬ OwnB (.slice a l c) k:=fun k hk hq=>h.ne hb k hq hk
theorem HdSt.cell {lo:Nat}{w:World}{a:Option Addr}{l c:Nat}{es:List GzE}(h:HdSt lo w a l c es)(i:Nat)(hi:i < es.length):∃ g,a=some ⟨g,0,none⟩∧∀ j,j < 9→w.cell? ⟨g,i*9+j,none⟩=(gzV es[i].a es[i].k es[i].g)[j]?:=by
 have hl:=h.len
 rcases h.own.2 with ⟨_,hz⟩ | ⟨g,cc,cur,hv,_⟩
 ·omega
 ·simp at hv
  obtain ⟨rfl,rfl⟩:=hv
  refine ⟨g,rfl,fun j hj=>?_⟩
  rw [← gzCs_at es i hi j hj]
  exact h.own.cellAt (i*9+j) (by omega)
theorem wpList_gz {ops:Array Oper}{rest:List Oper}{o:Oper}{act:Act}{w:World}{Q:Exit→Act→World→Prop}(hgd:o.guard=none)(s x:Operand)
  (ho:o.op = .call { callee := .builtin .append,args:=#[s,x],argTypes:=#[40,40] })
  {lo:Nat} {a1:Option Addr} {l1 c1:Nat} {es:List GzE} (hS:HdSt lo w a1 l1 c1 es) (hlo:lo≤w.heap.size) (hs:act.eval s = .slice a1 l1 c1)
  (g cx:Nat) (y:GzE) (hx:act.eval x = .slice (some ⟨g,0,none⟩) 1 cx) (hg:w.heap[g]?=some (.cells (gzV y.a y.k y.g) 42 (0,0))) (hn:l1≤100000)
  (h:∀ a2 c2 w',HdSt lo w' a2 (l1+1) c2 (es++[y])→Kept (OwnB (.slice a1 l1 c1)) w w'→(∀ k,(Value.slice a2 (l1+1) c2).ownBlock=some k→(Value.slice a1 l1 c1).ownBlock=some k∨w.heap.size≤k)→wpList Tryz.prog ops Q rest (act.put o.dst (.slice a2 (l1+1) c2)) w'):wpList Tryz.prog ops Q (o :: rest) act w:=by
 obtain ⟨i0,hi,hz0,hz1,hz2⟩:=info_parts infoGzB
 refine wpList_app w hgd s x 40 ho 42 i0 (.agg gz0) 9 88 Tryz.underlying40 hi hz0 hz1 hz2 rfl (by decide) _ l1 (gzCs es) hs hS.own ⟨g,0,none⟩ 1 cx (gzV y.a y.k y.g).toList hx rfl ?_ ?_ (by unfold maxLen;omega) (by omega) ?_
 ·intro j u hu
  rw [addr_add,Nat.zero_add,obj_cell hg j,← Array.getElem?_toList]
  exact hu
 ·intro u hu
  have:((gzV y.a y.k y.g).toList).all (·.oneCell')=true:=rfl
  exact List.all_eq_true.1 this u hu
 intro v' w' h2 h3 h4
 obtain ⟨a2,c2,rfl⟩:=slice_shape h2
 refine h _ _ _ ⟨by rw [List.length_append,← hS.len];rfl,by simpa [gzCs] using h2,?_⟩ ((Kept.refl _ w).grown h3 (fun k _ e=>e)) h4
 intro k hk
 rcases h4 k hk with h | h
 ·exact hS.fresh k h
 ·omega
theorem wpList_by_rowX {w:World}{ops:Array Oper}{rest:List Oper}{o:Oper}{act:Act}{Q:Exit→Act→World→Prop}(hgd:o.guard=none)(s x:Operand)
  (ho:o.op = .call { callee := .builtin .append,args:=#[s,x],argTypes:=#[22,22] })
  {w0:World} {a:Option Addr} {l c:Nat} {L:List UInt8} (hS:BySt w0 w a l c L) (hs:act.eval s = .slice a l c) (ad:Addr) (cx m:Nat) (M:List UInt8) (hm:m=M.length) (hx:act.eval x = .slice (some ad) m cx) (hr:Reads w (some ad) (nb M)) (hn:l+m≤100000000)
  (h:∀ a2 c2 w',BySt w0 w' a2 (l+m) c2 (L++M)→Kept (OwnB (.slice a l c)) w w'→(∀ k,(Value.slice a2 (l+m) c2).ownBlock=some k→(Value.slice a l c).ownBlock=some k∨w.heap.size≤k)→wpList Tryz.prog ops Q rest (act.put o.dst (.slice a2 (l+m) c2)) w'):wpList Tryz.prog ops Q (o :: rest) act w:=by
 obtain ⟨i0,hi,hz0,hz1,hz2⟩:=info_parts info5
 refine wpList_app w hgd s x 22 ho 5 i0 (.int .u8 0) 1 1 Tryz.underlying22 hi hz0 hz1 hz2 rfl (by decide) _ l (bc L) hs hS.own ad m cx (bc M) hx (by simp [bc,hm]) ?_ ?_ (by unfold maxLen;omega) (by omega) ?_
 ·rw [bc_nb];exact reads_news hr
 ·rw [bc_nb];exact news_one _
 intro v' w' h2 h3 h4
 obtain ⟨a2,c2,rfl,hb⟩:=hS.grow h2 hm h3 h4
 exact h _ _ _ hb ((Kept.refl _ w).grown h3 (fun k _ e=>e)) h4
structure EntOk (w:World)(ov hv:Option Nat)(y:GzE):Prop where
 rd:Reads w y.a (nb y.g.extra)
 cap:y.g.extra.length≤y.k
 most:y.k≤maxLen
 nil:y.a=none→y.k=0
 apart:y.g.extra=[]∨∃ q,y.a=some q∧q.block < w.heap.size∧ov≠some q.block∧hv≠some q.block
theorem reads_nilG {w:World}{a:Option Addr}{bs:List Int}(h:bs=[]):Reads w a bs:=by
 subst h
 cases a with
 | none=>exact ⟨fun _=>rfl,fun a e=>by cases e⟩
 | some a=>exact reads_empty
theorem EntOk.step {w w':World}{ov hv ov2 hv2:Option Nat}{y:GzE}{S:Nat→Prop}(h:EntOk w ov hv y)(hk:Kept S w w')(hS:∀ k,S k→ov=some k∨hv=some k∨w.heap.size≤k)(ho:∀ k,ov2=some k→ov=some k∨w.heap.size≤k)(hh:∀ k,hv2=some k→hv=some k∨w.heap.size≤k):EntOk w' ov2 hv2 y:=by
 refine ⟨?_,h.cap,h.most,h.nil,?_⟩
 ·rcases h.apart with e | ⟨q,hq,hb,h1,h2⟩
  ·exact reads_nilG (by rw [e];rfl)
  ·refine h.rd.kept hk (fun a ha hs=>?_)
   rw [hq] at ha
   cases ha
   rcases hS _ hs with e | e | e
   ·exact h1 e
   ·exact h2 e
   ·omega
 ·rcases h.apart with e | ⟨q,hq,hb,h1,h2⟩
  ·exact .inl e
  ·refine .inr ⟨q,hq,Nat.lt_of_lt_of_le hb hk.size,fun e=>?_,fun e=>?_⟩
   ·rcases ho _ e with e | e
    ·exact h1 e
    ·omega
   ·rcases hh _ e with e | e
    ·exact h2 e
    ·omega
structure Mm where
 g:GzP
 L:List UInt8
 body:List UInt8
structure Mm.Ok (m:Mm):Prop where
 ok:m.g.Ok
 pk:∃ lv qs,PackedP lv m.L (nb m.body) qs
 bl:m.body.length≤256
 b0:0 < m.body.length
 ll:m.L.length≤1000
structure Rnd (b:List Int)(at_ M:Nat)(out:List UInt8)(m:Mm)(tl:List Int):Prop where
 hd:b.drop at_=nb (headG m.g)++(nb m.body++tl)
 ok:m.Ok
 room:out.length+m.L.length≤M
def Mm.next (m:Mm)(at_:Nat):Nat:=at_+(headG m.g).length+m.body.length
inductive GoG (b:List Int) (M:Nat):Nat→List UInt8→List GzP→Nat→Int→List UInt8→List GzP→Prop
 | bad {at_:Nat} {out:List UInt8} {gs:List GzP} {m:Mm} {tl:List Int} {r:Nat} {e:Int}:Rnd b at_ M out m tl→tailS tl (crcL m.L) m.L.length=(r,e)→e≠0→GoG b M at_ out gs (m.next at_+r) e (out++m.L) (gs++[m.g])
 | done {at_:Nat} {out:List UInt8} {gs:List GzP} {m:Mm} {tl:List Int}:Rnd b at_ M out m tl→tailS tl (crcL m.L) m.L.length=(0,0)→m.next at_+8+leadZ (b.drop (m.next at_+8))=b.length→GoG b M at_ out gs 0 0 (out++m.L) (gs++[m.g])
 | junk {at_:Nat} {out:List UInt8} {gs:List GzP} {m:Mm} {tl:List Int}:Rnd b at_ M out m tl→tailS tl (crcL m.L) m.L.length=(0,0)→m.next at_+8+leadZ (b.drop (m.next at_+8))≠b.length→0 < leadZ (b.drop (m.next at_+8))→GoG b M at_ out gs (m.next at_+8+leadZ (b.drop (m.next at_+8))) 8 (out++m.L) (gs++[m.g])
 | next {at_:Nat} {out:List UInt8} {gs:List GzP} {m:Mm} {tl:List Int} {a2:Nat} {e2:Int} {o2:List UInt8} {g2:List GzP}:Rnd b at_ M out m tl→tailS tl (crcL m.L) m.L.length=(0,0)→m.next at_+8≠b.length→leadZ (b.drop (m.next at_+8))=0→GoG b M (m.next at_+8) (out++m.L) (gs++[m.g]) a2 e2 o2 g2→GoG b M at_ out gs a2 e2 o2 g2
theorem Rnd.len {b:List Int}{at_ M:Nat}{out:List UInt8}{m:Mm}{tl:List Int}(h:Rnd b at_ M out m tl):at_ < b.length∧m.next at_+tl.length=b.length∧b.drop (at_+(headG m.g).length)=nb m.body++tl∧b.drop (m.next at_)=tl∧at_+10≤at_+(headG m.g).length:=by
 have h1:=headG_len m.g h.ok.ok
 have h2:=congrArg List.length h.hd
 rw [List.length_drop,List.length_append,List.length_append,nb_len,nb_len] at h2
 have e1:b.drop (at_+(headG m.g).length)=nb m.body++tl:=by
  rw [← List.drop_drop,h.hd,← nb_len,List.drop_left]
 refine ⟨by omega,by unfold Mm.next;omega,e1,?_,by omega⟩
 unfold Mm.next
 rw [← List.drop_drop,e1,← nb_len,List.drop_left]
structure GzI (w1 W:World)(oa:Option Addr)(ol oc:Nat)(out:List UInt8)(ha:Option Addr)(hl hc:Nat)(es:List GzE):Prop where
 ob:BySt w1 W oa ol oc out
 hs:HdSt w1.heap.size W ha hl hc es
 en:∀ y∈es,EntOk W (Value.slice oa ol oc).ownBlock (Value.slice ha hl hc).ownBlock y
theorem GzI.no {w1 W W2:World}{oa ha:Option Addr}{ol oc hl hc:Nat}{out:List UInt8}{es:List GzE}(h:GzI w1 W oa ol oc out ha hl hc es)(hk:Kept NoB W W2):GzI w1 W2 oa ol oc out ha hl hc es:=
 ⟨h.ob.on hk,h.hs.no hk,fun y hy=>(h.en y hy).step hk (fun _ e=>e.elim) (fun _ e => .inl e) (fun _ e => .inl e)⟩
theorem GzI.head {w1 W W2:World}{oa ha h2:Option Addr}{ol oc hl hc l2 c2:Nat}{out:List UInt8}{es:List GzE}{y:GzE}(h:GzI w1 W oa ol oc out ha hl hc es)(hs:HdSt w1.heap.size W2 h2 l2 c2 (es++[y]))(hk:Kept (OwnB (.slice ha hl hc)) W W2)
  (hr:∀ k,(Value.slice h2 l2 c2).ownBlock=some k→(Value.slice ha hl hc).ownBlock=some k∨W.heap.size≤k) (hy:EntOk W (Value.slice oa ol oc).ownBlock (Value.slice ha hl hc).ownBlock y):GzI w1 W2 oa ol oc out h2 l2 c2 (es++[y]):=by
 have hb:=h.ob
 have hkn:Kept NoB w1 W2:=⟨hk.os.trans hb.kept.os,hk.tape.trans hb.kept.tape,hk.output.trans hb.kept.output,Nat.le_trans hb.kept.size hk.size,fun k hk1 _=>(hk.block k (Nat.lt_of_lt_of_le hk1 hb.kept.size) (fun e=>by have:=h.hs.fresh k e;omega)).trans (hb.kept.block k hk1 (fun e=>e))⟩
 refine ⟨⟨hb.len,hk.row hb.own (fun k e=>hb.ne h.hs k e),hkn,hb.fresh⟩,hs,fun z hz=>?_⟩
 have st:∀ z,EntOk W (Value.slice oa ol oc).ownBlock (Value.slice ha hl hc).ownBlock z→EntOk W2 (Value.slice oa ol oc).ownBlock (Value.slice h2 l2 c2).ownBlock z:=fun z hz=>hz.step hk (fun k e => .inr (.inl e)) (fun _ e => .inl e) hr
 rcases List.mem_append.1 hz with hz | hz
 ·exact st z (h.en z hz)
 ·simp only [List.mem_singleton] at hz;subst hz;exact st z hy
theorem GzI.grow {w1 W W2:World}{oa ha o2:Option Addr}{ol oc hl hc l2 c2:Nat}{out out2:List UInt8}{es:List GzE}(h:GzI w1 W oa ol oc out ha hl hc es)(hb:BySt w1 W2 o2 l2 c2 out2)(hk:Kept (OwnB (.slice oa ol oc)) W W2)
  (hr:∀ k,(Value.slice o2 l2 c2).ownBlock=some k→(Value.slice oa ol oc).ownBlock=some k∨W.heap.size≤k):GzI w1 W2 o2 l2 c2 out2 ha hl hc es:=
 ⟨hb,h.hs.keptS hk (fun k e=>h.hs.ne h.ob k e),fun y hy=>(h.en y hy).step hk (fun k e => .inl e) hr (fun _ e => .inl e)⟩
theorem GzI.ent {w1 W W0:World}{oa ha:Option Addr}{ol oc hl hc:Nat}{out:List UInt8}{es:List GzE}(h0:GzI w1 W0 oa ol oc out ha hl hc es)(hk:Kept NoB W0 W){a:Option Addr}{k:Nat}{g:GzP}(hr:Reads W a (nb g.extra))(hc1:g.extra.length≤k)(hm:k≤maxLen)(hn:a=none→k=0)(hf:∀ q,a=some q→W0.heap.size≤q.block):
  EntOk W (Value.slice oa ol oc).ownBlock (Value.slice ha hl hc).ownBlock ⟨a,k,g⟩:=by
 refine ⟨hr,hc1,hm,hn,?_⟩
 by_cases he:g.extra=[]
 ·exact .inl he
 ·obtain ⟨b,o,rfl,hb,_⟩:=hr.at (by rw [nb_len];cases h:g.extra with | nil=>exact absurd h he | cons=>simp)
  have hq:=hf _ rfl
  refine .inr ⟨_,rfl,hb,fun e=>?_,fun e=>?_⟩
  ·have:=(h0.ob.own.lt _ e).2;dsimp only at hq this;omega
  ·have:=(h0.hs.own.lt _ e).2;dsimp only at hq this;omega
theorem fill_oneG (a:Option Addr)(k:Nat)(g:GzP):Instr.fill (fun i=>some (i*9,9)) ((Array.range (1*9)).map ((Value.agg gz0).cells[· % (Value.agg gz0).cells.size]!)) [(0,.agg (gzV a k g))]=some (gzV a k g):=by
 kernel_rfl
theorem wpList_build_one {ops:Array Oper}{rest:List Oper}{o:Oper}{act:Act}{w:World}{Q:Exit→Act→World→Prop}(hgd:o.guard=none)(x:Operand)(ho:o.op = .buildSlice 40 1 #[(0,x)])(a:Option Addr)(k:Nat)(g:GzP)
  (hx:act.eval x = .agg (gzV a k g)) (h:wpList Tryz.prog ops Q rest (act.put o.dst (.slice (some ⟨w.heap.size,0,none⟩) 1 1)) (w.alloc (.cells (gzV a k g) 42))):wpList Tryz.prog ops Q (o :: rest) act w:=
 wpList_plain hgd fun _ hK=>by
  obtain ⟨i0,hi,hz0,hz1,hz2⟩:=info_parts infoGzB
  refine wp_buildSlice 40 42 1 _ ho (gzV a k g) i0 _ Tryz.underlying40 hi hz0 (by rw [hz1];decide) (by rw [hz1];decide) ?_ (hK _ _ h)
  rw [hz1]
  have e:(#[(0,x)].map fun (i,x)=>(i,act.eval x)).toList=[(0,.agg (gzV a k g))]:=by simp [hx]
  rw [e]
  exact fill_oneG a k g
end Go.Proofs.YtfmjfgmbjdhogaaGreatDoor
