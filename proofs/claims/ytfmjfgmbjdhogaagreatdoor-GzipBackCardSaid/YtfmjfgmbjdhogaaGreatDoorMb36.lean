import Derived.Test.YtfmjfgmbjdhogaaGreatDoorMb35
import Derived.Lib.SlBytesConst
set_option linter.unusedVariables false
set_option linter.unusedSimpArgs false
set_option maxRecDepth 20000
set_option maxHeartbeats 8000000
namespace Go.Proofs.YtfmjfgmbjdhogaaGreatDoor
open Go.RowKit
theorem GoG.rnd {b : List Int} {M at_ : Nat} {out : List UInt8} {gs : List GzP} {a2 : Nat} {e2 : Int} {o2 : List UInt8} {g2 : List GzP} (h : GoG b M at_ out gs a2 e2 o2 g2) : ∃ m tl, Rnd b at_ M out m tl ∧
    ((∃ r e, tailS tl (crcL m.L) m.L.length = (r, e) ∧ e ≠ 0 ∧ a2 = m.next at_ + r ∧ e2 = e ∧ o2 = out ++ m.L ∧ g2 = gs ++ [m.g]) ∨
     (tailS tl (crcL m.L) m.L.length = (0, 0) ∧ ((m.next at_ + 8 + leadZ (b.drop (m.next at_ + 8)) = b.length ∧ a2 = 0 ∧ e2 = 0 ∧ o2 = out ++ m.L ∧ g2 = gs ++ [m.g]) ∨
       (m.next at_ + 8 + leadZ (b.drop (m.next at_ + 8)) ≠ b.length ∧ 0 < leadZ (b.drop (m.next at_ + 8)) ∧ a2 = m.next at_ + 8 + leadZ (b.drop (m.next at_ + 8)) ∧ e2 = 8 ∧ o2 = out ++ m.L ∧ g2 = gs ++ [m.g]) ∨
       (m.next at_ + 8 ≠ b.length ∧ leadZ (b.drop (m.next at_ + 8)) = 0 ∧ GoG b M (m.next at_ + 8) (out ++ m.L) (gs ++ [m.g]) a2 e2 o2 g2)))) := by
  cases h with
  | bad hr ht he => exact ⟨_, _, hr, .inl ⟨_, _, ht, he, rfl, rfl, rfl, rfl⟩⟩
  | done hr ht hz => exact ⟨_, _, hr, .inr ⟨ht, .inl ⟨hz, rfl, rfl, rfl, rfl⟩⟩⟩
  | junk hr ht hn hz => exact ⟨_, _, hr, .inr ⟨ht, .inr (.inl ⟨hn, hz, rfl, rfl, rfl, rfl⟩)⟩⟩
  | next hr ht hn hz h => exact ⟨_, _, hr, .inr ⟨ht, .inr (.inr ⟨hn, hz, h⟩)⟩⟩
theorem tailS_ok {tl:List Int}{cr fl:Nat}(h:tailS tl cr fl=(0,0)):8≤tl.length:=by
 unfold tailS at h
 split at h
 ·exact absurd (show (7:Int)=0 from congrArg Prod.snd h) (by decide)
 ·split at h
  ·exact absurd (show (2:Int)=0 from congrArg Prod.snd h) (by decide)
  ·omega
theorem leadZ_le:∀ l,leadZ l≤l.length
 | []=>Nat.le_refl _
 | x :: r=>by rw [leadZ,List.length_cons];have:=leadZ_le r;split <;> omega
theorem tailS_le (tl:List Int)(cr fl:Nat):(tailS tl cr fl).1≤tl.length:=by
 unfold tailS
 split
 ·exact Nat.zero_le _
 ·split
  ·exact Nat.le_refl _
  ·split <;> exact Nat.zero_le _
theorem GzI.base {w w1 W:World}{oa ha:Option Addr}{ol oc hl hc:Nat}{out:List UInt8}{es:List GzE}(h:GzI w1 W oa ol oc out ha hl hc es)(hk:Kept NoB w w1):GzI w W oa ol oc out ha hl hc es:=
 ⟨⟨h.ob.len,h.ob.own,hk.trans h.ob.kept,fun k e=>Nat.le_trans hk.size (h.ob.fresh k e)⟩,⟨h.hs.len,h.hs.own,fun k e=>Nat.le_trans hk.size (h.hs.fresh k e)⟩,h.en⟩
def AllGR (w:World)(a2:Nat)(e2:Int)(o2:List UInt8)(g2:List GzP)(e:Ending)(w':World):Prop:=
 ∃ (oa:Option Addr) (ol oc:Nat) (ha:Option Addr) (hl hc:Nat) (es:List GzE),e = .returned (.tuple #[.slice oa ol oc,.slice ha hl hc,.int .i64 (a2:Int),.int .i64 e2])∧Hid (GzI w w' oa ol oc o2 ha hl hc es)∧Hid (es.map (·.g)=g2)
set_option maxHeartbeats 16000000 in
theorem gzall_any (w:World)(bo:Option Addr)(n c:Nat)(b:List Int)(z:Int)(M:Nat)(a2:Nat)(e2:Int)(o2:List UInt8)(g2:List GzP)(hn:n=b.length)(hR:CurRow w bo c b)(hnl:n≤100000)(hz:z=(M:Int))(hM:M≤1000000)(hG:GoG b M 0 [] [] a2 e2 o2 g2):
  Calls Tryz.prog 18 #[.slice bo n c,.int .i64 z] w (AllGR w a2 e2 o2 g2):=by
 subst hz
 have hcap:n≤c:=by rw [hn];exact hR.cap
 have HN:=Hd hn;have HR:=Hd hR;have HG:=Hd hG
 have HNt:=Hd (newt_any w)
 clear hn hR hG
 go_enter Tryz.func18,Tryz.ntmps18
 go_wp2_with fail
 refine HNt.out.mono ?_
 rintro e w1 ⟨T,rfl,hT,hTl,hk1⟩
 have HT:=Hd hT;have HK1:=Hd hk1
 clear hT hTl hk1 HNt
 go_wp2_with fail
 go_loopw [4,5,6,9,10,11,12,13,14,15,16,17] (fun v4 v5 v6 _ _ _ _ _ _ _ _ _ wr=>∃ (oa:Option Addr) (ol oc:Nat) (out:List UInt8) (ha:Option Addr) (hl hc:Nat) (es:List GzE) (at_:Nat),v4 = .slice oa ol oc∧v5 = .slice ha hl hc∧v6 = .int .i64 (at_:Int)∧at_≤n∧hl≤at_∧ol≤M∧Hid (GzI w1 wr oa ol oc out ha hl hc es)∧Hid (GoG b M at_ out (es.map (·.g)) a2 e2 o2 g2)) (fun _ _ v6 _ _ _ _ _ _ _ _ _ _=>n - (intOf v6).toNat)
 case atStart=>exact ⟨none,0,0,[],none,0,0,[],0,rfl,rfl,rfl,Nat.zero_le _,Nat.le_refl _,Nat.zero_le _,Hd ⟨BySt.nil _,HdSt.start _ _,fun y hy=>by cases hy⟩,HG⟩
 case round=>
  obtain ⟨oa,ol,oc,out,ha,hl,hc,es,at_,rfl,rfl,rfl,hat,hhl,hom,HI,HGo⟩:=hrel
  obtain ⟨m,tl,hrn,hwhat⟩:=HGo.out.rnd
  obtain ⟨l1,l2,l3,l4,l5⟩:=hrn.len
  have HWh:=Hd hwhat
  have HRow:Hid (∀ W,Kept NoB w1 W→CurRow W bo c b):=Hd (fun W hk=>(HR.out.keptNo HK1.out).keptNo hk)
  -- ReadHead
  obtain ⟨p1,hs1,hp1⟩:=slg_l bo n c at_ b HN.out hat hcap HR.out.nil
  have hd1:(b.drop at_).take (n - at_)=b.drop at_:=List.take_of_length_le (by rw [List.length_drop,HN.out];exact Nat.le_refl _)
  have hsub:∀ W,Kept NoB w1 W→CurRow W p1 (c - at_) (b.drop at_):=fun W hk=>by
   have h:=HRow.out W hk
   have hr:=hp1.reads W h.rd
   rw [hd1] at hr
   exact ⟨hr,h.all.drop _,by rw [List.length_drop,← HN.out];omega,by have:=h.most;omega,fun e=>by have:=h.nil (hp1.nil.1 e);omega⟩
  have hkr:=HI.out.ob.kept
  have HRH:=Hd (readhead_any wr p1 (n - at_) (c - at_) (b.drop at_) (by rw [List.length_drop,HN.out]) (hsub wr hkr) (by rw [List.length_drop,← HN.out];omega))
  have hback:=gz_back hrn.ok.ok (nb m.body++tl)
  rw [← hrn.hd] at hback
  have HBk:=Hd hback;have HRn:=Hd hrn
  -- numbers
  obtain ⟨H1,hH1⟩:∃ x,x=(headG m.g).length:=⟨_,rfl⟩
  obtain ⟨bl,hbl⟩:∃ x,x=m.body.length:=⟨_,rfl⟩
  obtain ⟨at2,hat2⟩:∃ x,x=at_+H1:=⟨_,rfl⟩
  obtain ⟨at3,hat3⟩:∃ x,x=m.next at_:=⟨_,rfl⟩
  have hnx:at3=at2+bl:=by rw [hat3,hat2,hH1,hbl];rfl
  have hA2:(at_:Int)+(H1:Int)=(at2:Int):=by omega
  have hA3:(at2:Int)+(bl:Int)=(at3:Int):=by omega
  rw [← hH1,← hat2] at l3
  rw [← hat3] at l2 l4 HWh
  have hH1b:H1≤70000:=by rw [hH1];exact (headG_len m.g hrn.ok.ok).2
  have hH10:10≤H1:=by rw [hH1];exact (headG_len m.g hrn.ok.ok).1
  have hblb:bl≤256:=by rw [hbl];exact hrn.ok.bl
  have hat3n:at3≤n:=by rw [HN.out];omega
  have hat2n:at2≤n:=by omega
  have L2:=Hd l2;have L3:=Hd l3;have L4:=Hd l4;have HH1:=Hd hH1;have HBl:=Hd hbl;have HA3e:=Hd hat3;have HNx:=Hd hnx
  obtain ⟨p2,hs2,hp2⟩:=slg_l bo n c at2 b HN.out hat2n hcap HR.out.nil
  obtain ⟨p3,hs3,hp3⟩:=slg_l bo n c at3 b HN.out hat3n hcap HR.out.nil
  have HSub:Hid (∀ (p:Option Addr) (at4:Nat),at4≤n→PartG bo b at4 n p→∀ W,Kept NoB w1 W→CurRow W p (c - at4) (b.drop at4)):=Hd (fun p at4 h4 hp W hk=>by
   have h:=HRow.out W hk
   have hr:=hp.reads W h.rd
   rw [List.take_of_length_le (by rw [List.length_drop,HN.out];exact Nat.le_refl _)] at hr
   exact ⟨hr,h.all.drop _,by rw [List.length_drop,← HN.out];omega,by have:=h.most;omega,fun e=>by have:=h.nil (hp.nil.1 e);omega⟩)
  have HS2:=Hd (HSub.out p2 at2 hat2n hp2);have HS3:=Hd (HSub.out p3 at3 hat3n hp3)
  have holn:=HI.out.ob.len
  have hroom:=hrn.room
  obtain ⟨ml,hml⟩:∃ x,x=m.L.length:=⟨_,rfl⟩
  have hrm:ol+ml≤M:=by rw [holn,hml];exact hroom
  have hml1:ml≤1000:=by rw [hml];exact hrn.ok.ll
  have HMl:=Hd hml
  obtain ⟨Mr,hMr⟩:∃ x,x=M - ol:=⟨_,rfl⟩
  have hsubM:IntKind.i64.wrap ((M:Int) - (ol:Int))=(Mr:Int):=by rw [IntWalk.i64_in _ (by omega)];omega
  have hMrb:ml≤Mr:=by omega
  have hMr2:Mr≤1000000:=by omega
  clear hwhat hp1 hd1 hsub hback hrn HGo l1 l2 l3 l4 l5 hH1 hbl hat2 hat3 hnx hp2 hp3 holn hroom hml hMr HSub
  go_wp2_with fail
  refine HRH.out.mono ?_
  rintro e w3 ⟨a,k,g',n',rfl,hz1,hz2,hx,hk3⟩
  have he0:(hdS (b.drop at_)).s14.e=0:=by rw [HBk.out.1]
  obtain ⟨hg',hn'⟩:=hz1.out he0
  rw [HBk.out.2] at hg'
  have hn2:n'=H1:=by rw [hn',HBk.out.1,HH1.out]
  subst hg' hn2
  rw [he0]
  obtain ⟨hx1,hx2,hx3,hx4,hx5⟩:=hx.out
  have hG1:(w3.alloc (.cells gz0 42)).heap[w3.heap.size]?=some (.cells gz0 42 (0,0)):=heap_alloc_new _ _
  have hG2:((w3.alloc (.cells gz0 42)).setRow w3.heap.size (gzV a k m.g)).heap[w3.heap.size]?=some (.cells (gzV a k m.g) 42 (0,0)):=setRow_heap _ _ _ _ _ _ hG1
  have hk4:Kept NoB w3 ((w3.alloc (.cells gz0 42)).setRow w3.heap.size (gzV a k m.g)):=by
   have h1:Kept NoB w3 (w3.alloc (.cells gz0 42)):=(Kept.refl _ _).alloc _
   exact ⟨h1.os,h1.tape,h1.output,by simp [World.setRow],fun k hk hs=>(setRow_other _ _ k _ (by omega)).trans (h1.block k hk hs)⟩
  have hone:(gzV a k m.g).all (·.oneCell')=true:=by unfold gzV;rw [← Array.all_toList];rfl
  unfold gz0 at hG1 hG2 hk4
  have HG1:=Hd hG1;have HOne:=Hd hone
  clear hz1 hz2 hx hn' he0 hG1 hone HRH HBk
  go_upto_region 3 with (refine wpList_store_row rfl 42 (.tmp 9) (.tmp 24) rfl w3.heap.size (gzV a k m.g) rfl rfl _ _ HG1.out infoGz rfl HOne.out ?_)
  generalize (w3.alloc (.cells #[.bool false,.bool false,.bool false,.slice none 0 0,.string ⟨#[]⟩,.string ⟨#[]⟩,.int .i64 0,.int .i64 0,.int .i64 0] 42)).setRow w3.heap.size (gzV a k m.g)=w4 at hG2 hk4 ⊢
  generalize w3.heap.size=G at hG2 ⊢
  have hk34:=hk3.trans hk4
  have hlo4:w1.heap.size≤(w4.alloc (.cells (gzV a k m.g) 42)).heap.size:=by
   have h1:=HI.out.ob.kept.size
   have h2:=hk34.size
   simp;omega
  have hka:Kept NoB wr (w4.alloc (.cells (gzV a k m.g) 42)):=hk34.alloc _
  have HEnt:=Hd (HI.out.ent hka (hx1.keptNo (hk4.alloc _)) hx2 hx3 hx4 hx5)
  have HIa:=Hd (HI.out.no hka)
  have HG2:=Hd hG2;have HLo:=Hd hlo4
  have hhl2:hl≤100000:=by omega
  clear hG2 hk4 hk34 hka hx1 hx2 hx3 hx4 hx5 hk3 hlo4 HG1 HI
  go_upto_region 9 with (first
   | (refine wpList_load_row rfl 42 (.tmp 9) rfl G rfl 42 (gzV a k m.g) (0,0) _ HG2.out Tryz.underlying42 rfl infoGz ?_)
   | (refine wpList_build_one rfl (.tmp 37) rfl a k m.g rfl ?_)
   | (at_builtin;refine wpList_gz rfl (.tmp 36) (.tmp 38) rfl HIa.out.hs HLo.out rfl w4.heap.size 1 ⟨a,k,m.g⟩ rfl (heap_alloc_new _ _) hhl2 ?_;intro h5 c5 w5 hS5 hk5 hr5;have HI5:=Hd (HIa.out.head hS5 hk5 hr5 HEnt.out);clear hS5 hk5 hr5))
  have hIn:∀ lv qs,PackedP lv m.L (nb m.body) qs→Calls Tryz.prog 45 #[.slice p2 (n - at2) (c - at2),.int .i64 (Mr:Int)] w5 (InfGR w5 (nb m.body).length m.L):=fun lv qs hP=>
   inflated_any w5 p2 (n - at2) (c - at2) (b.drop at2) (nb m.body) tl lv m.L qs (Mr:Int) Mr L3.out (by rw [List.length_drop,HN.out]) (HS2.out w5 HI5.out.ob.kept) (by omega) hP (by rw [nb_len,← HBl.out];exact hblb) (by rw [nb_len];exact HRn.out.ok.b0) rfl (by rw [← HMl.out];exact hMrb) (by have:=HRn.out.ok.ll;omega) hMr2
  obtain ⟨lv,qs,hPk⟩:=HRn.out.ok.pk
  have hInf:=hIn lv qs hPk
  rw [nb_len,← HBl.out] at hInf
  have HInf:=Hd hInf
  clear hIn hPk hInf HIa HEnt
  go_wp2_with fail
  refine HInf.out.mono ?_
  rintro e w6 ⟨fo,fl,fc,rfl,HFl,HFs⟩
  have hfl:fl=ml:=by rw [HFl.out,HMl.out]
  subst hfl
  have hk6:=HFs.out.kept
  have hI6:=HI5.out.no hk6
  have hcapF:=HFs.out.cap
  have hapart:∀ q,fo=some q→(Value.slice oa ol oc).ownBlock≠some q.block:=fun q hq e=>by
   have h1:=(HI5.out.ob.own.lt _ e).2
   have h2:=HFs.out.fresh q.block (by subst hq;exact own_block HFs.out.own rfl)
   omega
  have hcur6:CurRow w6 fo fc (nb m.L):=⟨HFs.out.reads,nb_all _,by rw [nb_len,← HMl.out];exact hcapF.1,hcapF.2.1,hcapF.2.2⟩
  have HI6:=Hd hI6;have HCu:=Hd hcur6;have HAp:=Hd hapart
  have hob:ol+fl≤100000000:=by omega
  clear hk6 hI6 hcapF hapart hcur6 HInf HI5 hs2
  go_upto_region 10 with fail
  go_cut [4] from 56 to 58 (fun v4 wx=>∃ (o7:Option Addr) (l7 c7:Nat),v4 = .slice o7 l7 c7∧l7≤M∧Hid (GzI w1 wx o7 l7 c7 (out++m.L) h5 (hl+1) c5 (es++[⟨a,k,m.g⟩]))∧Hid (CurRow wx fo fc (nb m.L)))
  case first=>
   cases fo with
   | none=>
    have hfc:=HCu.out.nil rfl
    have hL0:m.L=[]:=by
     have h1:=HCu.out.cap
     rw [nb_len] at h1
     exact List.eq_nil_of_length_eq_zero (by omega)
    have hf0:fl=0:=by rw [HMl.out,hL0];rfl
    subst hfc
    subst hf0
    go_wp2_with (at_builtin;refine wpList_by_none rfl (.tmp 56) (.tmp 57) rfl HI6.out.ob rfl rfl ?_)
    go_meet
    exact ⟨oa,ol,oc,rfl,hom,Hd (by rw [hL0,List.append_nil];exact HI6.out),HCu⟩
   | some ad=>
    go_wp2_with (at_builtin;refine wpList_by_rowX rfl (.tmp 56) (.tmp 57) rfl HI6.out.ob rfl ad fc fl m.L HMl.out rfl HCu.out.rd hob ?_;intro o7 c7 w7 hS7 hk7 hr7;have HI7:=Hd (HI6.out.grow hS7 hk7 hr7);have HC7:Hid (CurRow w7 (some ad) fc (nb m.L)):=Hd ⟨HCu.out.rd.kept hk7 (fun a ha e=>by cases ha;exact HAp.out _ rfl e),HCu.out.all,HCu.out.cap,HCu.out.most,HCu.out.nil⟩;clear hS7 hk7 hr7)
    go_meet
    exact ⟨o7,_,c7,rfl,hrm,HI7,HC7⟩
  case rest=>
  obtain ⟨o7,l7,c7,rfl,hl7,HI7,HC7⟩:=hcut
  have htl:=L4.out
  have HTl:=Hd (tail_any wc T p3 (n - at3) (c - at3) (b.drop at3) fo fl fc (nb m.L) (HT.out.keptNo HI7.out.ob.kept) (HS3.out wc HI7.out.ob.kept) (by rw [List.length_drop,HN.out]) HC7.out (by rw [nb_len,HMl.out]) (by omega))
  rw [htl] at HTl
  have HTl:Hid (Calls Tryz.prog 46 #[.pointer (some ⟨T,0,none⟩),.slice p3 (n - at3) (c - at3),.slice fo fl fc] wc fun e w'=>e = .returned (.tuple #[.int .i64 ((tailS tl (crcL m.L) fl).1:Nat),.int .i64 (tailS tl (crcL m.L) fl).2])∧Kept NoB wc w'):=HTl
  rw [HMl.out] at HTl
  have hrl:=tailS_le tl (crcL m.L) m.L.length
  have htn:tl.length≤n:=by have:=L2.out;have:=HN.out;omega
  obtain ⟨⟨r,er⟩,hre⟩:∃ t,t=tailS tl (crcL m.L) m.L.length:=⟨_,rfl⟩
  rw [← hre] at HTl HWh hrl
  have HRe:=Hd hre
  dsimp only at HTl hrl
  rw [← HMl.out] at HTl
  have hrb:r≤100000:=by omega
  clear hre hrl htn htl
  go_wp2_with fail
  refine HTl.out.mono ?_
  rintro e w8 ⟨rfl,hk8⟩
  have HI8:=Hd (HI7.out.no hk8)
  clear hk8 HTl HI7 HI6 HCu HAp HC7 HFs
  have hfin:∀ w9,Kept NoB w8 w9→GzI w w9 o7 l7 c7 (out++m.L) h5 (hl+1) c5 (es++[⟨a,k,m.g⟩]):=fun w9 hk=>(HI8.out.no hk).base HK1.out
  have HFin:=Hd hfin
  have HMap:Hid ((es++[(⟨a,k,m.g⟩:GzE)]).map (·.g)=es.map (·.g)++[m.g]):=Hd (by simp)
  clear hfin
  rcases HWh.out with ⟨r',e',h1,h2,h3,h4,h5',h6⟩ | ⟨h1,h2⟩
  ·cases h1
   have he2:(er == 0)=false:=by simpa using h2
   have HA:=Hd h3;have HE:=Hd h4;have HO:=Hd h5';have HGs:=Hd h6
   clear h2 h3 h4 h5' h6 HWh hs3
   go_wp2
   refine bodyPost_ret (results_tmp4 rfl _ _ _) rfl ?_
   refine ⟨o7,l7,c7,h5,hl+1,c5,_,?_,Hd (by rw [HO.out];exact HFin.out w8 (Kept.refl _ _)),Hd (by rw [HMap.out,HGs.out])⟩
   rw [HA.out,HE.out]
   first | rfl | (push_cast;rfl)
  ·cases h1
   have h8:=tailS_ok HRe.out.symm
   obtain ⟨at4,hat4⟩:∃ x,x=at3+8:=⟨_,rfl⟩
   have hA4:(at3:Int)+8=(at4:Int):=by omega
   have hat4n:at4≤n:=by have:=L2.out;have:=HN.out;omega
   obtain ⟨p4,hs4,hp4⟩:=slg_l bo n c at4 b HN.out hat4n hcap HR.out.nil
   rw [← hat4] at h2
   have hrow:=HRow.out w8 HI8.out.ob.kept
   have hr4:=hp4.reads w8 hrow.rd
   rw [List.take_of_length_le (by rw [List.length_drop,HN.out];exact Nat.le_refl _)] at hr4
   have HNo:=Hd (noughts_anyG w8 p4 (n - at4) (c - at4) (b.drop at4) (by rw [List.length_drop,HN.out]) hr4 (by omega))
   have hzl:=leadZ_le (b.drop at4)
   rw [List.length_drop,← HN.out] at hzl
   obtain ⟨Z,hZ⟩:∃ x,x=leadZ (b.drop at4):=⟨_,rfl⟩
   rw [← hZ] at HNo hzl h2
   rw [← HN.out] at h2
   have hZb:Z≤100000:=by omega
   have hatg:at_ < at4:=by have:=HNx.out;omega
   have HW:=Hd h2;have HA4e:=Hd hat4
   clear h8 h2 hat4 hp4 hrow hr4 hZ HWh
   have hcase:(at4+Z=n)∨(at4+Z≠n):=by omega
   rcases hcase with hq | hq
   ·have hdone:a2=0∧e2=0∧o2=out++m.L∧g2=es.map (·.g)++[m.g]:=by
     rcases HW.out with ⟨_,h⟩ | ⟨h,_⟩ | ⟨h,h',_⟩
     ·exact h
     ·exact absurd hq h
     ·omega
    have hq2:((at4:Int)+(Z:Int) == (n:Int))=true:=by rw [beq_iff_eq];omega
    have hq3:(at4:Int)+(Z:Int)=(n:Int):=by omega
    obtain ⟨d1,d2,d3,d4⟩:=hdone
    have HD1:=Hd d1;have HD2:=Hd d2;have HD3:=Hd d3;have HD4:=Hd d4
    clear d1 d2 d3 d4 hq HW
    go_wp2_with fail
    refine HNo.out.mono ?_
    rintro e w9 ⟨rfl,rfl⟩
    go_wp2
    refine bodyPost_ret (results_tmp4 rfl _ _ _) rfl ?_
    refine ⟨o7,l7,c7,h5,hl+1,c5,_,?_,Hd (by rw [HD3.out];exact HFin.out _ (Kept.refl _ _)),Hd (by rw [HMap.out,HD4.out])⟩
    rw [HD1.out,HD2.out]
    rfl
   ·have hq2:((at4:Int)+(Z:Int) == (n:Int))=false:=by rw [beq_eq_false_iff_ne];omega
    by_cases hz0:Z=0
    ·subst hz0
     have hgo:GoG b M at4 (out++m.L) (es.map (·.g)++[m.g]) a2 e2 o2 g2:=by
      rcases HW.out with ⟨h,_⟩ | ⟨_,h,_⟩ | ⟨_,_,h⟩
      ·exact absurd h hq
      ·omega
      ·exact h
     have hq4:((at4:Int) == (n:Int))=false:=by rw [beq_eq_false_iff_ne];omega
     have HGo:=Hd hgo
     clear hgo HW hq hq2
     go_wp2_with fail
     refine HNo.out.mono ?_
     rintro e w9 ⟨rfl,rfl⟩
     go_wp2
     go_roundw
     case rel=>exact ⟨o7,l7,c7,out++m.L,h5,hl+1,c5,es++[⟨a,k,m.g⟩],at4,rfl,rfl,by go_num,hat4n,by omega,hl7,HI8,Hd (by rw [HMap.out];exact HGo.out)⟩
     case measure=>simp [intOf];omega
    ·have hjunk:a2=at4+Z∧e2=8∧o2=out++m.L∧g2=es.map (·.g)++[m.g]:=by
      rcases HW.out with ⟨h,_⟩ | ⟨_,_,h⟩ | ⟨_,h,_⟩
      ·exact absurd h hq
      ·exact h
      ·exact absurd h hz0
     obtain ⟨d1,d2,d3,d4⟩:=hjunk
     have HD1:=Hd d1;have HD2:=Hd d2;have HD3:=Hd d3;have HD4:=Hd d4
     have hzp:(0:Int) < (Z:Int):=by omega
     clear d1 d2 d3 d4 hq HW hz0
     go_wp2_with fail
     refine HNo.out.mono ?_
     rintro e w9 ⟨rfl,rfl⟩
     go_wp2
     refine bodyPost_ret (results_tmp4 rfl _ _ _) rfl ?_
     refine ⟨o7,l7,c7,h5,hl+1,c5,_,?_,Hd (by rw [HD3.out];exact HFin.out _ (Kept.refl _ _)),Hd (by rw [HMap.out,HD4.out])⟩
     rw [HD1.out,HD2.out]
     first | rfl | (push_cast;rfl)
theorem hdS_nil:(hdS []).s14.e≠0:=by
 rcases hdS_short (b:=[]) (fun h=>absurd h (by decide)) (fun h=>absurd h (by decide)) (by decide) with h | h <;> rw [h] <;> decide
theorem gzall_nil (w:World)(z:Int):Calls Tryz.prog 18 #[.slice none 0 0,.int .i64 z] w fun e w'=>e = .returned (.tuple #[.slice none 0 0,.slice none 0 0,.int .i64 0,.int .i64 8])∧Kept NoB w w':=by
 have HNt:=Hd (newt_any w)
 have HE:=Hd hdS_nil
 go_enter Tryz.func18,Tryz.ntmps18
 go_wp2_with fail
 refine HNt.out.mono ?_
 rintro e w1 ⟨T,rfl,hT,hTl,hk1⟩
 have HK1:=Hd hk1
 have HRH:=Hd (readhead_any w1 none 0 0 [] rfl ⟨⟨fun _=>rfl,fun a e=>by cases e⟩,(fun x hx=>by cases hx),Nat.le_refl _,Nat.zero_le _,fun _=>rfl⟩ (by decide))
 have hsl:∀ W,(Instr.slice 22 (.slice none 0 0) (some (.int .i64 0)) none none).run Tryz.prog W = .ok (.slice none 0 0) W:=fun W=>by
  obtain ⟨o,h1,h2⟩:=slg_l none 0 0 0 [] rfl (Nat.le_refl _) (Nat.le_refl _) (fun _=>rfl)
  have:=h1 W
  rw [h2.nil.2 rfl] at this
  exact this
 clear hT hTl hk1 HNt
 go_wp2_with fail
 go_loopw [4,5,6,9,10,11,12,13,14,15,16,17] (fun v4 v5 v6 _ _ _ _ _ _ _ _ _ wr=>v4 = .slice none 0 0∧v5 = .slice none 0 0∧v6 = .int .i64 0∧wr=w1) (fun _ _ _ _ _ _ _ _ _ _ _ _ _=>0)
 case atStart=>exact ⟨rfl,rfl,rfl,rfl⟩
 case round=>
  obtain ⟨rfl,rfl,rfl,rfl⟩:=hrel
  go_wp2_with fail
  refine HRH.out.mono ?_
  rintro e w3 ⟨a,k,g',n',rfl,hz1,hz2,hx,hk3⟩
  have hn0:=hz2.out HE.out
  subst hn0
  obtain ⟨er,her⟩:∃ x,x=(hdS []).s14.e:=⟨_,rfl⟩
  have hne:er≠0:=by rw [her];exact HE.out
  rw [← her]
  have hne2:(er == 0)=false:=by simpa using hne
  have hG1:(w3.alloc (.cells gz0 42)).heap[w3.heap.size]?=some (.cells gz0 42 (0,0)):=heap_alloc_new _ _
  have hk4:Kept NoB w3 ((w3.alloc (.cells gz0 42)).setRow w3.heap.size (gzV a k g')):=by
   have h1:Kept NoB w3 (w3.alloc (.cells gz0 42)):=(Kept.refl _ _).alloc _
   exact ⟨h1.os,h1.tape,h1.output,by simp [World.setRow],fun k hk hs=>(setRow_other _ _ k _ (by omega)).trans (h1.block k hk hs)⟩
  have hone:(gzV a k g').all (·.oneCell')=true:=by unfold gzV;rw [← Array.all_toList];rfl
  unfold gz0 at hG1 hk4
  have HG1:=Hd hG1;have HOne:=Hd hone;have HK4:=Hd ((HK1.out.trans hk3).trans hk4)
  clear hz1 hz2 hx hG1 hone HRH HE her hk3 hk4 hne
  go_upto_region 3 with (refine wpList_store_row rfl 42 (.tmp 9) (.tmp 24) rfl w3.heap.size (gzV a k g') rfl rfl _ _ HG1.out infoGz rfl HOne.out ?_)
  generalize (w3.alloc (.cells #[.bool false,.bool false,.bool false,.slice none 0 0,.string ⟨#[]⟩,.string ⟨#[]⟩,.int .i64 0,.int .i64 0,.int .i64 0] 42)).setRow w3.heap.size (gzV a k g')=w4 at HK4 ⊢
  go_wp2
  refine bodyPost_ret (results_tmp4 rfl _ _ _) rfl ?_
  exact ⟨rfl,HK4.out⟩
theorem mm_ok {g:GzP}{lv:Int}{L body:List UInt8}{qs:List (Nat × Nat)}(hg:g.Ok)(hp:PackedP lv L (nb body) qs)(hl:L.length≤240):Mm.Ok ⟨g,L,body⟩:=by
 have h1:=hp.len
 have h2:=hp.few
 have h3:=hp.pos
 rw [nb_len] at h1
 exact ⟨hg,⟨lv,qs,hp⟩,by dsimp only;omega,by dsimp only;omega,by dsimp only;omega⟩
theorem tail_whole (L:List UInt8)(more:List Int)(hl:L.length < 4294967296):tailS (nb (leB 4 (crcL L))++nb (leB 4 L.length)++more) (crcL L) L.length=(0,0):=by
 have h1:(nb (leB 4 (crcL L))).length=4:=by rw [nb_len,leB_len]
 have h2:(nb (leB 4 L.length)).length=4:=by rw [nb_len,leB_len]
 have n1:num (nb (leB 4 (crcL L)))=crcL L:=leB_num 4 _ (crc16_nat _)
 have n2:num (nb (leB 4 L.length))=L.length:=leB_num 4 _ hl
 generalize nb (leB 4 (crcL L))=x at *
 generalize nb (leB 4 L.length)=y at *
 have e1:(x++y++more).take 4=x:=by rw [List.append_assoc,← h1,List.take_left]
 have e2:((x++y++more).drop 4).take 4=y:=by rw [List.append_assoc,← h1,List.drop_left,h1,← h2,List.take_left]
 unfold tailS
 rw [e1,e2,n1,n2,if_neg (fun k=>k.2 rfl),if_neg (by simp only [List.length_append];omega),if_neg (fun k=>k rfl)]
theorem memB_next (m:Mm)(at_:Nat):m.next at_+8=at_+(memB m.g m.L m.body).length:=by
 unfold Mm.next memB
 simp only [List.length_append,leB_len]
 omega
theorem rnd_mem {pre rest:List Int}{m:Mm}{M:Nat}{out:List UInt8}(hm:m.Ok)(hr:out.length+m.L.length≤M):Rnd (pre++(nb (memB m.g m.L m.body)++rest)) pre.length M out m (nb (leB 4 (crcL m.L))++nb (leB 4 m.L.length)++rest):=by
 refine ⟨?_,hm,hr⟩
 rw [List.drop_left]
 unfold memB
 simp [nb]
theorem drop_mem (pre rest:List Int)(m:Mm):(pre++(nb (memB m.g m.L m.body)++rest)).drop (m.next pre.length+8)=rest:=by
 rw [memB_next,← List.drop_drop,List.drop_left,← nb_len,List.drop_left]
theorem tail_le1 {m:Mm}(h:m.Ok):m.L.length < 4294967296:=by have:=h.ll;omega
theorem leadZ_all:∀ k,leadZ (List.replicate k 0)=k
 | 0=>rfl
 | k+1=>by rw [List.replicate_succ,leadZ,if_pos rfl,leadZ_all k]
theorem memB_head (m:Mm):∃ r,nb (memB m.g m.L m.body)=31 :: r:=⟨nb (memB m.g m.L m.body).tail,by
 have:memB m.g m.L m.body=31 :: (memB m.g m.L m.body).tail:=rfl
 rw [this];rfl⟩
theorem go_rows {M k:Nat}:∀ (ms:List Mm) (pre:List Int) (out:List UInt8) (gs:List GzP),ms≠[]→(∀ m∈ms,m.Ok)→out.length+(ms.map (·.L)).flatten.length≤M→
  GoG (pre++(nb ((ms.map fun m=>memB m.g m.L m.body).flatten)++List.replicate k 0)) M pre.length out gs 0 0 (out++(ms.map (·.L)).flatten) (gs++ms.map (·.g))
 | [],_,_,_,h,_,_=>absurd rfl h
 | [m],pre,out,gs,_,hok,hM=>by
  have hm:=hok m (List.mem_singleton_self m)
  simp only [List.map_cons,List.map_nil,List.flatten_cons,List.flatten_nil,List.append_nil] at hM ⊢
  refine GoG.done (rnd_mem hm (by simpa using hM)) (tail_whole _ _ (tail_le1 hm)) ?_
  rw [drop_mem,leadZ_all,memB_next]
  simp only [List.length_append,nb_len,List.length_replicate]
  omega
 | m :: m2 :: r,pre,out,gs,_,hok,hM=>by
  have hm:=hok m List.mem_cons_self
  have ih:=go_rows (M:=M) (k:=k) (m2 :: r) (pre++nb (memB m.g m.L m.body)) (out++m.L) (gs++[m.g]) (by simp) (fun x hx=>hok x (List.mem_cons_of_mem _ hx)) (by
   simp only [List.map_cons,List.flatten_cons,List.length_append] at hM ⊢;omega)
  obtain ⟨t,ht⟩:=memB_head m2
  have eb:pre++(nb (((m :: m2 :: r).map fun m=>memB m.g m.L m.body).flatten)++List.replicate k 0)=pre++(nb (memB m.g m.L m.body)++(nb (((m2 :: r).map fun m=>memB m.g m.L m.body).flatten)++List.replicate k 0)):=by
   simp [nb]
  have eb2:(pre++nb (memB m.g m.L m.body))++(nb (((m2 :: r).map fun m=>memB m.g m.L m.body).flatten)++List.replicate k 0)=pre++(nb (memB m.g m.L m.body)++(nb (((m2 :: r).map fun m=>memB m.g m.L m.body).flatten)++List.replicate k 0)):=by
   rw [List.append_assoc]
  have e31:∃ t,nb (((m2 :: r).map fun m=>memB m.g m.L m.body).flatten)++List.replicate k (0:Int)=31 :: t:=by
   rw [List.map_cons,List.flatten_cons,nb_app,ht]
   exact ⟨_,rfl⟩
  obtain ⟨t2,ht2⟩:=e31
  rw [eb2] at ih
  rw [eb]
  refine GoG.next (m:=m) (rnd_mem hm (by simp only [List.map_cons,List.flatten_cons,List.length_append] at hM;omega)) (tail_whole _ _ (tail_le1 hm)) ?_ ?_ ?_
  ·rw [memB_next,ht2]
   simp only [List.length_append,nb_len,List.length_cons]
   omega
  ·rw [drop_mem,ht2,leadZ,if_neg (by decide)]
  ·rw [memB_next,← nb_len,← List.length_append]
   have e1:out++((m :: m2 :: r).map (·.L)).flatten=(out++m.L)++((m2 :: r).map (·.L)).flatten:=by simp
   have e2:gs++(m :: m2 :: r).map (·.g)=(gs++[m.g])++(m2 :: r).map (·.g):=by simp
   rw [e1,e2]
   exact ih
theorem allStore_any (w:World)(lv:Int)(H k:Nat)(ps:List (List UInt8))(hk:k=ps.length)(hk4:k≤1000)(hp:∀ i,i < k→∃ o c,w.cell? ⟨H,i,none⟩=some (.slice o (ps.getD i []).length c)∧Reads w o (nb (ps.getD i []))∧(o=none→c=0))(hlen:ps.flatten.length≤32768)
  (hlv : -9223372036854775808≤lv∧lv≤9223372036854775807) (hl1:lv < 1):
  Calls Tryz.prog 9 #[.int .i64 lv,.slice (some ⟨H,0,none⟩) k k] w fun e w'=>∃ ao c bs qs,e = .returned (.slice ao bs.length c)∧PackedP lv ps.flatten bs qs∧Reads w' ao bs∧(ao=none→c=0)∧bs.length≤c∧Kept NoB w w':=by
 have HCc:=Hd (concatB_any H k ps w hk hk4 hp (by omega))
 obtain ⟨L,hL⟩:∃ L,L=ps.flatten:=⟨_,rfl⟩
 rw [← hL] at HCc hlen ⊢
 clear hk hp hL
 go_enter Tryz.func9,Tryz.ntmps9
 go_wp2_with fail
 refine HCc.out.mono ?_
 rintro e w1 ⟨a,n,c,rfl,hn,hst⟩
 have HSt:=Hd hst;have HN:=Hd hn
 have hcap:=hst.cap
 have hnl:n≤32768:=by omega
 clear hst hn HCc
 go_wp2_with fail
 refine (neww_any _).mono ?_
 rintro e w2 ⟨A,rfl,hW,hAf,hk2⟩
 have HW:=Hd hW;have HAf:Hid (w1.heap.size≤A):=Hd hAf;have HK2:=Hd hk2
 clear hW hAf hk2
 have hsh:∀ q,a=some q→∃ g,q=⟨g,0,none⟩:=fun q hq=>by
  rcases HSt.out.own.2 with ⟨hv,_⟩ | ⟨g,cc,cur,hv,_⟩
  ·simp at hv;rw [hv.1] at hq;cases hq
  ·simp at hv;rw [hv.1] at hq;cases hq;exact ⟨g,rfl⟩
 have hxl:n=(nb L).length:=by rw [nb_len];exact HN.out
 have hE1:∀ W,(Instr.slice 22 (.slice a n c) none (some (.int .i64 (n:Int))) none).run Tryz.prog W = .ok (.slice a n c) W:=fun W=>by
  rw [run_slice_h (P:=Tryz.prog) (w:=W) 22 a n c (by kernel_rfl) .i64 (n:Int) (by omega) (by have:=hcap.1;omega),size_u8]
  simp only [Result.andThen,Int.toNat_natCast]
  unfold sliced
  rw [Nat.sub_zero,Nat.sub_zero]
  cases a with
  | none=>simp
  | some q=>
   obtain ⟨g,rfl⟩:=hsh q rfl
   simp [addr_add]
 obtain ⟨o2,c2,hE2,_⟩:=slc_l a n c n (nb L) hxl hsh (Nat.le_refl _) hcap.1 hcap.2.2
 rw [Nat.sub_self] at hE2
 have hblk:∀ q,a=some q→q.block < w1.heap.size:=fun q hq=>own_lt HSt.out.own _ (by rw [hq];rfl)
 have hsep:∀ q,a=some q→q.block≠A∧(Value.slice none ([]:List Int).length 0).ownBlock≠some q.block:=fun q hq=>by
  have h1:=hblk q hq
  have h2:=HAf.out
  exact ⟨by omega,by simp [Value.ownBlock]⟩
 have hst2:BySt w w2 a n c L:=HSt.out.on HK2.out
 have hrd:=hst2.reads
 have hcS:=storeAll_few w2 A none 0 [] 0 true a c (nb L) HW.out (by omega) hrd (nb_all L) (by rw [nb_len];omega) hsep
 rw [← hxl] at hcS
 have HcS:=Hd hcS
 have HCap:=Hd hcap;have HKw2:=Hd hst2.kept;have HAw:Hid (w.heap.size≤A):=Hd (Nat.le_trans HSt.out.kept.size HAf.out)
 have hfin:∀ (w3:World) (qs:List (Nat × Nat)) (a3:Option Addr) (c3:Nat) (b3:List Int),WroteP w2 A (.slice none ([]:List Int).length 0) [] 0 qs w3 a3 c3 b3→PackedP lv L b3 qs→
   Calls Tryz.prog 28 #[.pointer (some ⟨A,0,none⟩)] w3 fun e w'=>∃ ao c bs qs,e = .returned (.slice ao bs.length c)∧PackedP lv L bs qs∧Reads w' ao bs∧(ao=none→c=0)∧bs.length≤c∧Kept NoB w w':=fun w3 qs a3 c3 b3 h1 h2=>by
  refine (wbytes_any _ _ _ _ _ _ h1.1).mono ?_
  rintro e w' ⟨ao',cap',rfl,ho,hf,hn,hk'⟩
  refine ⟨ao',cap',b3,qs,rfl,h2,own_reads ho rfl,own_nil ho,(own_cap2 ho).1,?_⟩
  refine (HKw2.out.transO h1.2.2.1 (fun i hi e=>?_)).trans hk'
  rcases e with e | e
  ·unfold OneB at e;have:=HAw.out;omega
  ·unfold OwnB at e;simp [Value.ownBlock] at e
 have HFin:=Hd hfin
 have hLl:L.length≤32768:=hlen
 have hmin:¬ (1048560:Int) < (n:Int):=by omega
 have hmin2:min (n:Int) 1048560=(n:Int):=by omega
 clear hsh hxl hblk hsep hst2 hrd hcS hfin hcap
 go_wp2_with fail
 go_loopw [5,7] (fun bv _n wr=>bv = .slice a n c∧w2=wr) (fun _ _ _=>0)
 case atStart=>exact ⟨rfl,rfl⟩
 case round=>
  obtain ⟨rfl,rfl⟩:=hrel
  go_wp2_with fail
  refine HcS.out.mono ?_
  rintro e w3 ⟨a3,c3,b3,rfl,hW3⟩
  have hup:up8 (0+3) - (0+3)=5:=rfl
  rw [hup] at hW3
  have HF3:=Hd (HFin.out w3 _ a3 c3 b3 hW3 (packed_of hLl hW3 (Nat.le_refl _) (fun _=>rfl) (.inl rfl)))
  clear hW3 hup
  go_wp2_with fail
  refine HF3.out.mono ?_
  rintro e w4 ⟨ao,c4,bs,qs,rfl,h1,h2,h3,h4,h5⟩
  have H1:=Hd h1;have H2:=Hd h2;have H3:=Hd h3;have H4:=Hd h4;have H5:=Hd h5
  clear h1 h2 h3 h4 h5
  go_wp2
  go_ret
  exact ⟨ao,c4,bs,qs,rfl,H1.out,H2.out,H3.out,H4.out,H5.out⟩
theorem member_yes0 (w:World)(a:Option Addr)(c:Nat)(g:GzP)(lv:Int)(H k:Nat)(ps:List (List UInt8))(hg:g.Ok)(hr:Reads w a (nb g.extra))(hc:g.extra.length≤c)(h0:a=none→c=0)
  (hk:k=ps.length) (hk4:k≤1000) (hp:∀ W,Kept NoB w W→∀ i,i < k→∃ o c,W.cell? ⟨H,i,none⟩=some (.slice o (ps.getD i []).length c)∧Reads W o (nb (ps.getD i []))∧(o=none→c=0)∧(ps.getD i []).length≤c∧c≤maxLen) (hlen:ps.flatten.length≤32768)
  (hlv : -9223372036854775808≤lv∧lv≤9223372036854775807) (hl1:lv < 1):
  Calls Tryz.prog 17 #[.agg (gzV a c g),.int .i64 lv,.slice (some ⟨H,0,none⟩) k k] w fun e w'=>∃ (a2:Option Addr) (m c2:Nat) (body:List UInt8) (qs:List (Nat × Nat)),e = .returned (.tuple #[.slice a2 m c2,.bool true])∧Hid (BySt w w' a2 m c2 (memB g ps.flatten body))∧Hid (PackedP lv ps.flatten (nb body) qs):=by
 have HHd:=Hd (fun W (h:Kept NoB w W)=>gzhead_yes W a c g hg (hr.keptNo h) hc h0)
 have hhl:=headG_len g hg
 have HP:=Hd hp;have HKe:=Hd hk
 have hsz:(Tryz.prog.info? 42).map (·.size)=some (gzV a c g).size:=infoGz
 obtain ⟨arr,harr⟩:∃ arr,arr=gzV a c g:=⟨_,rfl⟩
 rw [← harr] at HHd hsz ⊢
 have HSz:=Hd hsz
 clear hg hr hc h0 hp hk hsz harr
 go_enter Tryz.func17,Tryz.ntmps17
 go_upto_region 1 with fail
 have hob:(w.alloc (.cells arr 42)).heap[w.heap.size]?=some (.cells arr 42 (0,0)):=heap_alloc_new _ _
 have hk0:Kept NoB w (w.alloc (.cells arr 42)):=(Kept.refl _ _).alloc _
 generalize w.alloc (.cells arr 42)=wb at hob hk0 ⊢
 generalize w.heap.size=X at hob ⊢
 have HOb:=Hd hob;have HHb:=Hd (HHd.out wb hk0);have HK0:=Hd hk0
 clear hob HHd hk0
 go_wp2_with (refine wpList_load_row rfl 42 (.tmp 3) rfl X rfl 42 arr (0,0) _ HOb.out Tryz.underlying42 rfl HSz.out ?_)
 go_wp2_with fail
 refine HHb.out.mono ?_
 rintro e w1 ⟨a1,m1,c1,rfl,hS1⟩
 have HS1:Hid (BySt w w1 a1 m1 c1 (headG g)):=Hd ⟨hS1.len,hS1.own,HK0.out.trans hS1.kept,fun k e=>Nat.le_trans HK0.out.size (hS1.fresh k e)⟩
 have hml:m1≤70000:=by rw [hS1.len];exact hhl.2
 clear hS1 HHb HOb HK0
 go_wp2_with fail
 go_loopw [10,12,22] (fun v10 _ v22 wr=>∃ i n:Nat,v10 = .int .i64 (n:Int)∧v22 = .int .i64 (i:Int)∧i≤k∧n≤32768∧wr=w1∧Hid (n=(ps.take i).flatten.length)) (fun _ _ v22 _=>k - (intOf v22).toNat)
 case atStart=>exact ⟨0,0,rfl,rfl,Nat.zero_le _,by omega,rfl,Hd rfl⟩
 case round=>
  obtain ⟨i,n,rfl,rfl,hi,hn,rfl,HN⟩:=hrel
  by_cases hik:i < k
  ·obtain ⟨o,co,c0,hro,hno,hlo,hco⟩:=HP.out wr HS1.out.kept i hik
   have hfs:=flat_step ps i (by rw [← HKe.out];exact hik)
   have hfl:=flat_le ps (i+1)
   obtain ⟨pl,hpl⟩:∃ pl,pl=(ps.getD i []).length:=⟨_,rfl⟩
   rw [← hpl] at c0 hlo
   have hnn:n+pl=(ps.take (i+1)).flatten.length:=by rw [hfs,List.length_append,← HN.out,hpl]
   have hn2:n+pl≤32768:=by omega
   have HNn:=Hd hnn
   have hco2:=hco
   unfold maxLen at hco2
   clear hro hno hfs hfl hpl hnn hco
   go_wp2
   go_roundw
   case rel=>exact ⟨i+1,n+pl,by go_num,by go_num,by omega,by omega,by trivial,Hd HNn.out⟩
   case measure=>simp [intOf];omega
  ·have hik2:i=k:=by omega
   subst hik2
   have HNl:Hid (n=ps.flatten.length):=Hd (by rw [HN.out,List.take_of_length_le (by rw [← HKe.out];exact Nat.le_refl _)])
   clear HN hi hik
   have HAll:=Hd (allStore_any wr lv H i ps HKe.out hk4 (fun j hj=>by
    obtain ⟨o,co,h1,h2,h3,_,_⟩:=HP.out wr HS1.out.kept j hj
    exact ⟨o,co,h1,h2,h3⟩) hlen hlv hl1)
   have hparts:∀ W,Kept NoB w W→Parts W (some ⟨H,0,none⟩) (ps.map nb):=fun W hk=>by
    by_cases h0:i=0
    ·left
     have:ps.length=0:=by rw [← HKe.out];exact h0
     rw [List.eq_nil_of_length_eq_zero this];rfl
    ·right
     obtain ⟨o,co,h1,_⟩:=HP.out W hk 0 (by omega)
     refine ⟨H,0,rfl,World.block_lt_of_cell? W _ h1,fun j hj=>?_⟩
     have hj2:j < i:=by rw [HKe.out];simpa using hj
     obtain ⟨o,co,h1,h2,h3,h4,h5⟩:=HP.out W hk j hj2
     have e:(ps.map nb).getD j []=nb (ps.getD j []):=by
      have hjp:j < ps.length:=by rw [← HKe.out];exact hj2
      simp [List.getD,hjp]
     rw [e,nb_len,Nat.zero_add]
     exact ⟨o,co,h1,h2,h4,h5,h3⟩
   have hallp:AllP (ps.map nb):=by
    intro p hp
    obtain ⟨q,_,rfl⟩:=List.mem_map.1 hp
    exact nb_all q
   have hflat:(ps.map nb).flatten=nb ps.flatten:=by unfold nb;rw [List.map_flatten]
   have HSum:Hid (∀ W T,Kept NoB w W→Tbl W T→Calls Tryz.prog 44 #[.pointer (some ⟨T,0,none⟩),.slice (some ⟨H,0,none⟩) i i] W fun e w'=>e = .returned (.int .u32 (crcL ps.flatten:Nat))∧Kept NoB W w'):=Hd (fun W T hk hT=>by
    have:=sum_any W T (some ⟨H,0,none⟩) i i (ps.map nb) hT (hparts W hk) hallp (by rw [List.length_map,HKe.out]) (by omega)
    rw [hflat] at this
    exact this)
   have hcl:crcL ps.flatten < 4294967296:=crc16_nat _
   clear hparts hallp hflat
   generalize hLe:ps.flatten=L at *
   have HLe:=Hd hLe
   obtain ⟨cr,hcr⟩:∃ cr,cr=crcL L:=⟨_,rfl⟩
   rw [← hcr] at HSum hcl
   have HCr:=Hd hcr
   clear hLe hcr
   go_wp2_with fail
   refine HAll.out.mono ?_
   rintro e w4 ⟨ao,c4,bs,qs,rfl,hP,hrd,hno,hcc,hk4'⟩
   have hall:=hP.all
   have hnu:=nb_un hall
   have hbl:bs.length≤40000:=by have h1:=hP.len;have h2:=hP.few;omega
   have HS4:=Hd (HS1.out.on hk4')
   have HPk:Hid (PackedP lv L (nb (un bs)) qs):=Hd (by rw [hnu];exact hP)
   have hrd2:Reads w4 ao (nb (un bs)):=by rw [hnu];exact hrd
   have hul:bs.length=(un bs).length:=by simp [un]
   obtain ⟨body,hbody⟩:∃ body,body=un bs:=⟨_,rfl⟩
   rw [← hbody] at HPk hrd2 hul
   obtain ⟨bl,hble⟩:∃ bl,bl=bs.length:=⟨_,rfl⟩
   rw [← hble] at hbl hul hcc ⊢
   have HRd:=Hd hrd2;have HUl:=Hd hul
   clear hP hrd hall hnu hbody hrd2 hul hk4' HAll hble
   cases ao with
   | none=>
    have hc0:=hno rfl
    subst hc0
    have hb0:bl=0:=by omega
    subst hb0
    have hbn:body=[]:=List.eq_nil_of_length_eq_zero HUl.out.symm
    have HS5:Hid (BySt w w4 a1 m1 c1 (headG g++body)):=Hd (by rw [hbn,List.append_nil];exact HS4.out)
    have HNt:=Hd (newt_any w4)
    clear hno
    go_wp2_with (first | (at_builtin;refine wpList_by_none rfl (.tmp 31) (.tmp 34) rfl HS4.out rfl rfl ?_) | fail)
    refine HNt.out.mono ?_
    rintro e w6 ⟨T,rfl,hT,hTl,hk6⟩
    have HS6:=Hd (HS5.out.on hk6)
    have HSm:=Hd (HSum.out w6 T HS6.out.kept hT)
    clear hT hTl hk6 HNt
    go_wp2_with fail
    refine HSm.out.mono ?_
    rintro e w7 ⟨rfl,hk7⟩
    have HA1:=Hd (appnum_any w w7 a1 m1 c1 _ cr 4 4 rfl (HS6.out.on hk7) (by omega) (by decide) (by omega))
    clear hk7 HSm
    go_wp2_with fail
    refine HA1.out.mono ?_
    rintro e w8 ⟨a8,c8,rfl,hS8⟩
    have HA2:=Hd (appnum_any w w8 a8 (m1+4) c8 _ n 4 4 rfl hS8 (by omega) (by decide) (by omega))
    clear hS8 HA1
    go_wp2_with fail
    refine HA2.out.mono ?_
    rintro e w9 ⟨a9,c9,rfl,hS9⟩
    have HS9:=Hd hS9
    clear hS9 HA2
    go_wp2
    go_ret2
    refine ⟨a9,_,c9,body,qs,rfl,Hd ?_,Hd (by rw [HLe.out];exact HPk.out)⟩
    rw [HLe.out]
    unfold memB
    rw [← HCr.out,← HNl.out]
    exact HS9.out
   | some ad=>
    clear hno
    go_wp2_with (first | (at_builtin;refine wpList_by_row rfl (.tmp 31) (.tmp 34) rfl HS4.out rfl ad c4 bl body HUl.out rfl HRd.out (by omega) ?_;intro a5 c5 w5 hS5;have HS5:=Hd hS5;have HNt:=Hd (newt_any w5);clear hS5) | fail)
    refine HNt.out.mono ?_
    rintro e w6 ⟨T,rfl,hT,hTl,hk6⟩
    have HS6:=Hd (HS5.out.on hk6)
    have HSm:=Hd (HSum.out w6 T HS6.out.kept hT)
    clear hT hTl hk6 HNt
    go_wp2_with fail
    refine HSm.out.mono ?_
    rintro e w7 ⟨rfl,hk7⟩
    have HA1:=Hd (appnum_any w w7 a5 (m1+bl) c5 _ cr 4 4 rfl (HS6.out.on hk7) (by omega) (by decide) (by omega))
    clear hk7 HSm
    go_wp2_with fail
    refine HA1.out.mono ?_
    rintro e w8 ⟨a8,c8,rfl,hS8⟩
    have HA2:=Hd (appnum_any w w8 a8 (m1+bl+4) c8 _ n 4 4 rfl hS8 (by omega) (by decide) (by omega))
    clear hS8 HA1
    go_wp2_with fail
    refine HA2.out.mono ?_
    rintro e w9 ⟨a9,c9,rfl,hS9⟩
    have HS9:=Hd hS9
    clear hS9 HA2
    go_wp2
    go_ret2
    refine ⟨a9,_,c9,body,qs,rfl,Hd ?_,Hd (by rw [HLe.out];exact HPk.out)⟩
    rw [HLe.out]
    unfold memB
    rw [← HCr.out,← HNl.out]
    exact HS9.out
theorem conv_by {w0 w:World}{a:Option Addr}{l c:Nat}{L:List UInt8}(h:BySt w0 w a l c L):(convert 22 9 (.slice a l c)).run Tryz.prog w = .ok (.string (strB L)) w:=by
 rw [← nb_strG]
 exact conv_reads h.reads (by rw [nb_len];exact h.len) h.cap.2.2
theorem CurRow.ofBy {w0 w:World}{a:Option Addr}{l c:Nat}{L:List UInt8}(h:BySt w0 w a l c L):CurRow w a c (nb L):=⟨h.reads,nb_all L,by rw [nb_len,← h.len];exact h.cap.1,h.cap.2.1,h.cap.2.2⟩
theorem isg_mem (w:World){w0:World}{a:Option Addr}{l c:Nat}{m:Mm}{rest:List UInt8}(h:BySt w0 w a l c (memB m.g m.L m.body++rest)):Calls Tryz.prog 21 #[.slice a l c] w fun e w'=>e = .returned (.bool true)∧w'=w:=by
 refine isg_yes w a l c (nb (memB m.g m.L m.body++rest)) (by rw [nb_len];exact h.len) h.reads ?_ ?_ ?_
 ·rw [h.len]
  have h1:2≤(memB m.g m.L m.body).length:=by
   have:memB m.g m.L m.body=31 :: 139 :: (memB m.g m.L m.body).tail.tail:=rfl
   rw [this];simp
  rw [List.length_append];omega
 ·have:memB m.g m.L m.body++rest=31 :: ((memB m.g m.L m.body).tail++rest):=rfl
  rw [this];rfl
 ·have:memB m.g m.L m.body++rest=31 :: 139 :: ((memB m.g m.L m.body).tail.tail++rest):=rfl
  rw [this];rfl
def g255:GzP:=⟨false,false,false,[],[],[],0,0,255⟩
theorem g255_ok:g255.Ok:=⟨by decide,by decide,by decide,by decide,fun _=>rfl,by decide,by decide,by decide,by decide⟩
theorem awake11_any (w:World):Calls Tryz.prog 15 #[] w fun e w'=>e = .returned (.bool true)∧Kept NoB w w':=by
 have hk0:Kept NoB w ((w.alloc (.cells #[.int .u8 97] 5 (1,2))).alloc (.cells #[.slice (some ⟨w.heap.size,0,none⟩) 1 1] 22)):=((Kept.refl _ _).alloc _).alloc _
 have hrd:Reads ((w.alloc (.cells #[.int .u8 97] 5 (1,2))).alloc (.cells #[.slice (some ⟨w.heap.size,0,none⟩) 1 1] 22)) (some ⟨w.heap.size,0,none⟩) (nb [97]):=
  (lit_reads (t:=5) (fr:=(1,2)) (cs:=#[.int .u8 97]) (nb [97]) (heap_alloc_new _ _) rfl).keptNo ((Kept.refl _ _).alloc _)
 have hcl:((w.alloc (.cells #[.int .u8 97] 5 (1,2))).alloc (.cells #[.slice (some ⟨w.heap.size,0,none⟩) 1 1] 22)).cell? ⟨w.heap.size+1,0,none⟩=some (.slice (some ⟨w.heap.size,0,none⟩) 1 1):=cell_new 0 (by simp)
 have HMem:=Hd (member_yes0 ((w.alloc (.cells #[.int .u8 97] 5 (1,2))).alloc (.cells #[.slice (some ⟨w.heap.size,0,none⟩) 1 1] 22)) none 0 g255 0 (w.heap.size+1) 1 [[97]] g255_ok ⟨fun _=>rfl,fun a e=>by cases e⟩ (Nat.zero_le _) (fun _=>rfl) rfl (by decide)
  (fun W hk i hi=>by
   have:i=0:=by omega
   subst this
   exact ⟨_,1,hk.cell hcl,hrd.keptNo hk,fun e=>(by cases e),Nat.le_refl _,by unfold maxLen;omega⟩) (by decide) (by decide) (by decide))
 have HMem:Hid (Calls Tryz.prog 17 #[.agg #[.bool false,.bool false,.bool false,.slice none 0 0,.string ⟨#[]⟩,.string ⟨#[]⟩,.int .i64 0,.int .i64 0,.int .i64 255],.int .i64 0,.slice (some ⟨w.heap.size+1,0,none⟩) 1 1] ((w.alloc (.cells #[.int .u8 97] 5 (1,2))).alloc (.cells #[.slice (some ⟨w.heap.size,0,none⟩) 1 1] 22)) fun e w'=>∃ (a2:Option Addr) (m c2:Nat) (body:List UInt8) (qs:List (Nat × Nat)),e = .returned (.tuple #[.slice a2 m c2,.bool true])∧Hid (BySt ((w.alloc (.cells #[.int .u8 97] 5 (1,2))).alloc (.cells #[.slice (some ⟨w.heap.size,0,none⟩) 1 1] 22)) w' a2 m c2 (memB g255 [97] body))∧Hid (PackedP 0 [97] (nb body) qs)):=HMem
 have HK0:=Hd hk0
 have kc:=fun (w:World) (C:Array Value) (n c:Nat)=>Lib.run_convert_bytes_const (P:=Tryz.prog) w 22 5 C n c Tryz.underlying22 Tryz.underlying5
 clear hk0 hrd hcl
 go_enter Tryz.func15,Tryz.ntmps15
 go_wp2_with fail
 refine HMem.out.mono ?_
 rintro e w2 ⟨a2,m,c2,body,qs,rfl,HB,HP⟩
 have hok:Mm.Ok ⟨g255,[97],body⟩:=mm_ok g255_ok HP.out (by decide)
 have hgo:=go_rows (M:=10) (k:=0) [⟨g255,[97],body⟩] [] [] [] (by simp) (by intro x hx;rw [List.mem_singleton] at hx;subst hx;exact hok) (by simp)
 have eb:([]:List Int)++(nb (([(⟨g255,[97],body⟩:Mm)].map fun m=>memB m.g m.L m.body).flatten)++List.replicate 0 0)=nb (memB g255 [97] body):=by simp
 rw [eb] at hgo
 have hbl:(memB g255 [97] body).length≤100000:=by
  have:=(headG_len g255 g255_ok).2
  have:=hok.bl
  unfold memB
  simp only [List.length_append,leB_len]
  dsimp only at this
  omega
 have HAll:=Hd (gzall_any w2 a2 m c2 (nb (memB g255 [97] body)) 10 10 _ _ _ _ (by rw [nb_len];exact HB.out.len) (CurRow.ofBy HB.out) (by rw [HB.out.len];exact hbl) rfl (by decide) hgo)
 have HIs:=Hd (fun (W:World) (hk:Kept NoB w2 W)=>isg_mem W (m:=⟨g255,[97],body⟩) (rest:=[]) (by rw [List.append_nil];exact HB.out.on hk))
 have HKB:=Hd (HK0.out.trans HB.out.kept)
 clear hok hgo eb hbl HMem
 go_wp2_with fail
 refine HAll.out.mono ?_
 rintro e w3 ⟨oa,ol,oc,ha,hl,hc,es,rfl,HI,HE⟩
 have HNil:=Hd (gzall_nil w3 10)
 have HIs3:=Hd (fun W hk=>HIs.out W (HI.out.ob.kept.trans hk))
 clear HAll
 go_wp2_with fail
 refine HNil.out.mono ?_
 rintro e w4 ⟨rfl,hk4⟩
 have HI4:=Hd (HI.out.no hk4)
 have HIs4:=Hd (HIs3.out w4 hk4)
 clear hk4 HNil HI
 have hcv:=conv_by HI4.out.ob
 have hye:∃ y,es=[y]∧y.g=g255:=by have:=HE.out;simpa using this
 obtain ⟨y,rfl,hyg⟩:=hye
 have hl1:hl=1:=HI4.out.hs.len
 subst hl1
 obtain ⟨gb,rfl,hgc⟩:=HI4.out.hs.cell 0 (by simp)
 have hg8:w4.cell? ⟨gb,8,none⟩=some (.int .i64 255):=by
  have:=hgc 8 (by decide)
  rw [Nat.zero_mul,Nat.zero_add] at this
  rw [this]
  show (gzV y.a y.k y.g)[8]?=_
  rw [hyg];rfl
 have hol:([]:List UInt8)++([(⟨g255,[97],body⟩:Mm)].map (·.L)).flatten=[97]:=rfl
 rw [hol] at hcv
 have hst:=strB_list [97]
 have HK:=Hd (HKB.out.trans HI4.out.ob.kept)
 clear hgc hol HE HI4 HB HP HIs HIs3 hyg
 go_wp2_with fail
 refine HIs4.out.mono ?_
 rintro e w5 ⟨rfl,rfl⟩
 go_wp2
 go_ret
 exact ⟨rfl,HK.out⟩
end Go.Proofs.YtfmjfgmbjdhogaaGreatDoor
