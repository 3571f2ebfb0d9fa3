import Derived.Test.YtfmjfgmbjdhogaaGreatDoorMb30
import Derived.Test.YtfmjfgmbjdhogaaGreatDoorShelfM
set_option linter.unusedVariables false
set_option linter.unusedSimpArgs false
set_option maxRecDepth 20000
set_option maxHeartbeats 8000000
namespace Go.Proofs.YtfmjfgmbjdhogaaGreatDoor
open Go.RowKit
theorem infoCh:(Tryz.prog.info? 175).map (·.size)=some 3:=by kernel_rfl
theorem infoI32:(Tryz.prog.info? 21).map (fun i=>(i.zero,i.size,i.bytes))=some (some (.int .i32 0),1,4):=by kernel_rfl
theorem own_full32 {w:World}{g n:Nat}{xs:List Value}(h:w.ownsRow 0 21 1 (.slice (some ⟨g,0,none⟩) n n) n xs):w.heap[g]?=some (.cells xs.toArray 21 (0,0)):=by
 rcases h.2 with ⟨hv,_⟩ | ⟨g',cap,cur,hv,_,hg,h1,h2,h3,h4⟩
 ·simp at hv
 ·simp at hv
  obtain ⟨rfl,rfl⟩:=hv
  have e:cur.toList=xs:=by
   rw [← h4,Nat.mul_one] at *
   exact (List.take_of_length_le (by rw [Array.length_toList];omega)).symm
  rw [hg,← e]
theorem mk_any (w:World)(n:Nat)(hn:n≤70000):∃ w',(Instr.makeSlice 173 (.int .i64 (n:Int)) (.int .i64 (n:Int))).run Tryz.prog w = .ok (.slice (some ⟨w.heap.size,0,none⟩) n n) w'∧PlcAt w' w.heap.size (List.replicate n 0)∧Kept NoB w w'∧w.heap.size < w'.heap.size:=by
 obtain ⟨i0,hi0,hz0,hz1,hz2⟩:=info_parts infoI32
 obtain ⟨w',hrun,hown,hg⟩:=run_make_full (P:=Tryz.prog) w 0 173 21 i0 (.int .i32 0) 1 Tryz.underlying173 hi0 hz0 hz1 .i64 .i64 n (by rw [hz2];omega) (by unfold maxLen;omega) (Nat.zero_le _)
 have hp:PlcAt w' w.heap.size (List.replicate n 0):=by
  unfold PlcAt
  rw [own_full32 hown]
  congr 2
  show (madeCells #[Value.int .i32 0] (n*1)).toList.toArray=_
  rw [Nat.mul_one,toList_madeCells_one,List.map_replicate]
 exact ⟨w',hrun,hp,(Kept.refl NoB w).grown hg (fun _ _ e=>by cases e),(Array.getElem?_eq_some_iff.1 hp).1⟩
structure NewC (w0 w:World)(gh gb gc H K sh:Nat)(hs:List Int):Prop where
 h:PlcAt w gh hs
 b:PlcAt w gb (List.replicate K 0)
 c:w.heap[gc]?=some (.cells #[.slice (some ⟨gh,0,none⟩) H H,.slice (some ⟨gb,0,none⟩) K K,.int .i64 (sh:Int)] 175 (0,0))
 n1:gh≠gb
 n2:gh≠gc
 n3:gb≠gc
 f1:w0.heap.size≤gh
 f2:w0.heap.size≤gb
 f3:w0.heap.size≤gc
 kept:Kept NoB w0 w
set_option maxRecDepth 100000 in
theorem newchain_any (size:Nat)(w:World)(hs:size≤32768):
  Calls Tryz.prog 114 #[.int .i64 (size:Int)] w fun e w'=>∃ W gh gb,4≤W∧W≤16∧e = .returned (.agg #[.slice (some ⟨gh,0,none⟩) (2 ^ W) (2 ^ W),.slice (some ⟨gb,0,none⟩) size size,.int .i64 ((64 - W:Nat):Int)])∧PlcAt w' gh (List.replicate (2 ^ W) (-1))∧PlcAt w' gb (List.replicate size 0)∧gh≠gb∧w.heap.size≤gh∧w.heap.size≤gb∧Kept NoB w w':=by
 have HLen:=Hd (fun W2=>Tryz.bits_Len (size:Int) W2 (by omega) (by omega))
 obtain ⟨bl,hbl⟩:∃ bl,bl=Lib.bitLen (size:Int).toNat:=⟨_,rfl⟩
 rw [← hbl] at HLen
 obtain ⟨W,hW⟩:∃ W,W=min (max bl 4) 16:=⟨_,rfl⟩
 have hW1:4≤W∧W≤16:=by omega
 have hm1:min (max (bl:Int) 4) 16=(W:Int):=by omega
 have hsw:IntKind.u64.wrap (size:Int)=(size:Int):=by rw [IntKind.wrap_u64];omega
 clear hbl hW
 go_enter Tryz.func114,Tryz.ntmps114
 go_upto_region 1 with fail
 go_cut [3] from 6 to 10 (fun v3 wx=>v3 = .int .i64 (W:Int)∧Kept NoB w wx∧w.heap.size < wx.heap.size∧Hid (wx.heap[w.heap.size]?=some (.cells #[.slice none 0 0,.slice none 0 0,.int .i64 0] 175 (0,0))))
 case first=>
  go_wp2_with fail
  with_reducible refine (HLen.out _).mono ?_
  rintro e w1 ⟨rfl,rfl⟩
  have hka:Kept NoB w (w.alloc (.cells #[.slice none 0 0,.slice none 0 0,.int .i64 0] 175)):=(Kept.refl NoB w).alloc _
  have HM1:=Hd hm1
  clear hm1
  go_wp2
  go_meet
  exact ⟨by rw [HM1.out],hka,by simp,Hd (heap_alloc_new _ _)⟩
 case rest=>
 obtain ⟨rfl,hkx,hsx,HR0⟩:=hcut
 obtain ⟨H,hH⟩:∃ H,H=2 ^ W:=⟨_,rfl⟩
 have hHb:16≤H∧H≤65536:=by
  rw [hH]
  exact ⟨Nat.pow_le_pow_right (n:=2) (by omega) hW1.1,Nat.pow_le_pow_right (n:=2) (by omega) hW1.2⟩
 obtain ⟨w0,hw0⟩:∃ w0,w0=wc:=⟨_,rfl⟩
 have HKx:=Hd hkx
 have HH:=Hd hH
 have hsh:(64:Int) - (W:Int)=((64 - W:Nat):Int):=by omega
 obtain ⟨sh,hsh2⟩:∃ sh,sh=64 - W:=⟨_,rfl⟩
 rw [← hsh2] at hsh
 have hshb:48≤sh∧sh≤60:=by omega
 have hshw:IntKind.i64.wrap (sh:Int)=(sh:Int):=IntWalk.i64_in _ (by omega)
 have HSh:=Hd hsh2
 clear hsh2 hH hkx hw0
 have hmn:min (size:Int) 32768=(size:Int):=by omega
 have hpw:(2:Int) ^ W=(H:Int):=by rw [HH.out];simp
 have hpw2:(1:Int)*(2:Int) ^ W=(H:Int):=by rw [hpw];simp
 have hpw3:IntKind.i64.wrap (H:Int)=(H:Int):=IntWalk.i64_in _ (by omega)
 go_upto_region 2 with fail
 go_cut [4] from 11 to 19 (fun v4 wx=>∃ gh gb gc,v4 = .pointer (some ⟨gc,0,none⟩)∧Hid (NewC wc wx gh gb gc H size sh (List.replicate H 0)))
 case first=>
  go_wp2_with fail
  refine wp_region_noPanic ?_
  refine wp_region_held_drew (S:=fun W2=>Kept NoB wc W2) (by kernel_rfl) (Kept.drew (Kept.refl _ _)) (fun hHeld=>?_)
  obtain ⟨wd,hwd⟩:∃ x,x=wc.drew:=⟨_,rfl⟩
  have hwcd:Hid (wc.heap.size=wd.heap.size):=Hd (by rw [hwd];rfl)
  rw [← hwd] at hHeld ⊢
  clear hwd
  refine wpAnyH_take (i:=0) (v:=?_) (by rw [List.getElem?_toArray];rfl) (by kernel_rfl) (by kernel_rfl) (by kernel_rfl) (fun _ _ _ h=>h) (Or.inl ⟨by rfl,?hyq1_⟩) (by assumption) ?restq1_
  case hyq1_=>(intro w hSw;(try dsimp only at hSw);go_simp;(try with_reducible rfl))
  try simp only [Act.put,List.setIfInBounds_toArray,List.set_cons_zero,List.set_cons_succ]
  refine wpAnyH_take (i:=1) (v:=?_) (by rw [List.getElem?_toArray];rfl) (by kernel_rfl) (by kernel_rfl) (by kernel_rfl) (fun _ _ _ h=>h) (Or.inl ⟨by rfl,?hyq2_⟩) (by assumption) ?restq2_
  case hyq2_=>(intro w hSw;(try dsimp only at hSw);go_simp;(try with_reducible rfl))
  try simp only [Act.put,List.setIfInBounds_toArray,List.set_cons_zero,List.set_cons_succ]
  refine wpAnyH_take (i:=3) (v:=?_) (by rw [List.getElem?_toArray];rfl) (by kernel_rfl) (by kernel_rfl) (by kernel_rfl) (fun _ _ _ h=>h) (Or.inl ⟨by rfl,?hyq3_⟩) (by assumption) ?restq3_
  case hyq3_=>(intro w hSw;(try dsimp only at hSw);go_simp;(try with_reducible rfl))
  try simp only [Act.put,List.setIfInBounds_toArray,List.set_cons_zero,List.set_cons_succ]
  refine wpAnyH_take (i:=4) (v:=?_) (by rw [List.getElem?_toArray];rfl) (by kernel_rfl) (by kernel_rfl) (by kernel_rfl) (fun _ _ _ h=>h) (Or.inl ⟨by rfl,?hyq4_⟩) (by assumption) ?restq4_
  case hyq4_=>(intro w hSw;(try dsimp only at hSw);go_simp;(try with_reducible rfl))
  try simp only [Act.put,List.setIfInBounds_toArray,List.set_cons_zero,List.set_cons_succ]
  refine wpAnyH_take (i:=6) (v:=?_) (by rw [List.getElem?_toArray];rfl) (by kernel_rfl) (by kernel_rfl) (by kernel_rfl) (fun _ _ _ h=>h) (Or.inl ⟨by rfl,?hyq5_⟩) (by assumption) ?restq5_
  case hyq5_=>(intro w hSw;(try dsimp only at hSw);go_simp;(try with_reducible rfl))
  try simp only [Act.put,List.setIfInBounds_toArray,List.set_cons_zero,List.set_cons_succ]
  refine wpAnyH_take (i:=7) (v:=?_) (by rw [List.getElem?_toArray];rfl) (by kernel_rfl) (by kernel_rfl) (by kernel_rfl) (fun _ _ _ h=>h) (Or.inl ⟨by rfl,?hyq6_⟩) (by assumption) ?restq6_
  case hyq6_=>(intro w hSw;(try dsimp only at hSw);go_simp;(try with_reducible rfl))
  try simp only [Act.put,List.setIfInBounds_toArray,List.set_cons_zero,List.set_cons_succ]
  refine wpAnyH_ready (rs:=[2,5,9]) (by kernel_rfl) (by simp) ?_
  refine AllReadyH.cons (by rw [List.getElem?_toArray];rfl) (fun K hK=>?_) (AllReadyH.cons (by rw [List.getElem?_toArray];rfl) (fun K hK=>?_) (AllReadyH.cons (by rw [List.getElem?_toArray];rfl) (fun K hK=>?_) AllReadyH.nil))
  ·obtain ⟨w2,hrunw2,hpw2,hkw2,hltw2⟩:=mk_any wd H (by omega)
   go_simp
   refine hK.out _ _ (hHeld.trans hkw2) (fun hHeld=>?_)
   clear hK K
   try simp only [Act.put,List.setIfInBounds_toArray,List.set_cons_zero,List.set_cons_succ]
   have hH:=hpw2
   refine wpAnyH_ready (rs:=[5,9]) (by kernel_rfl) (by simp) ?_
   refine AllReadyH.cons (by rw [List.getElem?_toArray];rfl) (fun K hK=>?_) (AllReadyH.cons (by rw [List.getElem?_toArray];rfl) (fun K hK=>?_) AllReadyH.nil)
   ·obtain ⟨w25,hrunw25,hpw25,hkw25,hltw25⟩:=mk_any w2 size (by omega)
    go_simp
    refine hK.out _ _ (hHeld.trans hkw25) (fun hHeld=>?_)
    clear hK K
    try simp only [Act.put,List.setIfInBounds_toArray,List.set_cons_zero,List.set_cons_succ]
    have hB:=hpw25
    have hH:=hH.keptS hkw25 (fun h=>h)
    refine wpAnyH_take (i:=8) (v:=?_) (by rw [List.getElem?_toArray];rfl) (by kernel_rfl) (by kernel_rfl) (by kernel_rfl) (fun _ _ _ h=>h) (Or.inl ⟨by rfl,?hyq7_⟩) (by assumption) ?restq7_
    case hyq7_=>(intro w hSw;(try dsimp only at hSw);go_simp;(try with_reducible rfl))
    try simp only [Act.put,List.setIfInBounds_toArray,List.set_cons_zero,List.set_cons_succ]
    refine wpAnyH_ready (rs:=[9]) (by kernel_rfl) (by simp) ?_
    refine AllReadyH.cons (by rw [List.getElem?_toArray];rfl) (fun K hK=>?_) AllReadyH.nil
    go_simp
    refine hK.out _ _ (hHeld.alloc _) (fun hHeld=>?_)
    clear hK K
    try simp only [Act.put,List.setIfInBounds_toArray,List.set_cons_zero,List.set_cons_succ]
    obtain ⟨w259,hww259⟩:∃ n,n=w25.alloc (.cells #[.slice none 0 0,.slice none 0 0,.int .i64 0] 175):=⟨_,rfl⟩
    have hkw259:Kept NoB w25 w259:=by rw [hww259];exact (Kept.refl _ _).alloc _
    have hC:w259.heap[w25.heap.size]?=some (.cells #[.slice none 0 0,.slice none 0 0,.int .i64 0] 175 (0,0)):=by rw [hww259];exact heap_alloc_new _ _
    have hltw259:w25.heap.size < w259.heap.size:=by rw [hww259];simp
    rw [← hww259] at hHeld ⊢
    clear hww259
    have hH:=hH.keptS hkw259 (fun h=>h)
    have hB:=hB.keptS hkw259 (fun h=>h)
    have c0:=obj_cell hC 0
    have z0:=obj_free hC 0
    have o1:=obj_set hC 0 (.slice (some ⟨wd.heap.size,0,none⟩) H H)
    have c1:=obj_cell o1 1
    have z1:=obj_free o1 1
    have o2:=obj_set o1 1 (.slice (some ⟨w2.heap.size,0,none⟩) size size)
    have c2:=obj_cell o2 2
    have z2:=obj_free o2 2
    have o3:=obj_set o2 2 (.int .i64 (sh:Int))
    have hgw:wc.heap.size≤w25.heap.size:=by have:=hwcd.out;omega
    have hk3:Kept NoB wc (((w259.setCell ⟨w25.heap.size,0,none⟩ (.slice (some ⟨wd.heap.size,0,none⟩) H H)).setCell ⟨w25.heap.size,1,none⟩ (.slice (some ⟨w2.heap.size,0,none⟩) size size)).setCell ⟨w25.heap.size,2,none⟩ (.int .i64 (sh:Int))):=Kept.setCell (p:=⟨w25.heap.size,2,none⟩) (Kept.setCell (p:=⟨w25.heap.size,1,none⟩) (Kept.setCell (p:=⟨w25.heap.size,0,none⟩) hHeld (.inr hgw) _) (.inr hgw) _) (.inr hgw) _
    refine wpAnyH_ready (rs:=[10]) (by kernel_rfl) (by simp) ?_
    refine AllReadyH.cons (by rw [List.getElem?_toArray];rfl) (fun K hK=>?_) AllReadyH.nil
    go_simp
    refine hK.out _ _ hk3 (fun hHeld=>?_)
    clear hK K
    try simp only [Act.put,List.setIfInBounds_toArray,List.set_cons_zero,List.set_cons_succ]
    refine wpAnyH_done (by kernel_rfl) ?_ _
    refine NoPanic.normal ?_
    obtain ⟨wz,hwz⟩:∃ wz,wz=(((w259.setCell ⟨w25.heap.size,0,none⟩ (.slice (some ⟨wd.heap.size,0,none⟩) H H)).setCell ⟨w25.heap.size,1,none⟩ (.slice (some ⟨w2.heap.size,0,none⟩) size size)).setCell ⟨w25.heap.size,2,none⟩ (.int .i64 (sh:Int))):=⟨_,rfl⟩
    have hF:NewC wc wz wd.heap.size w2.heap.size w25.heap.size H size sh (List.replicate H 0):=⟨by rw [hwz];exact ((hH.other (by omega) _ _).other (by omega) _ _).other (by omega) _ _,by rw [hwz];exact ((hB.other (by omega) _ _).other (by omega) _ _).other (by omega) _ _,by rw [hwz];exact o3,by omega,by omega,by omega,by have:=hwcd.out;omega,by have:=hwcd.out;omega,by have:=hwcd.out;omega,by rw [hwz];exact hHeld⟩
    rw [← hwz]
    have HF:=Hd hF
    clear hwz hF hH hB hC c0 c1 c2 z0 z1 z2 o1 o2 o3
    go_wp2
    go_meet
    exact ⟨_,_,_,rfl,HF⟩
   ·go_simp
    refine hK.out _ _ (hHeld.alloc _) (fun hHeld=>?_)
    clear hK K
    try simp only [Act.put,List.setIfInBounds_toArray,List.set_cons_zero,List.set_cons_succ]
    obtain ⟨w29,hww29⟩:∃ n,n=w2.alloc (.cells #[.slice none 0 0,.slice none 0 0,.int .i64 0] 175):=⟨_,rfl⟩
    have hkw29:Kept NoB w2 w29:=by rw [hww29];exact (Kept.refl _ _).alloc _
    have hC:w29.heap[w2.heap.size]?=some (.cells #[.slice none 0 0,.slice none 0 0,.int .i64 0] 175 (0,0)):=by rw [hww29];exact heap_alloc_new _ _
    have hltw29:w2.heap.size < w29.heap.size:=by rw [hww29];simp
    rw [← hww29] at hHeld ⊢
    clear hww29
    have hH:=hH.keptS hkw29 (fun h=>h)
    refine wpAnyH_ready (rs:=[5]) (by kernel_rfl) (by simp) ?_
    refine AllReadyH.cons (by rw [List.getElem?_toArray];rfl) (fun K hK=>?_) AllReadyH.nil
    obtain ⟨w295,hrunw295,hpw295,hkw295,hltw295⟩:=mk_any w29 size (by omega)
    go_simp
    refine hK.out _ _ (hHeld.trans hkw295) (fun hHeld=>?_)
    clear hK K
    try simp only [Act.put,List.setIfInBounds_toArray,List.set_cons_zero,List.set_cons_succ]
    have hB:=hpw295
    have hH:=hH.keptS hkw295 (fun h=>h)
    have hC:=hkw295.obj hC (fun h=>h)
    refine wpAnyH_take (i:=8) (v:=?_) (by rw [List.getElem?_toArray];rfl) (by kernel_rfl) (by kernel_rfl) (by kernel_rfl) (fun _ _ _ h=>h) (Or.inl ⟨by rfl,?hyq8_⟩) (by assumption) ?restq8_
    case hyq8_=>(intro w hSw;(try dsimp only at hSw);go_simp;(try with_reducible rfl))
    try simp only [Act.put,List.setIfInBounds_toArray,List.set_cons_zero,List.set_cons_succ]
    have c0:=obj_cell hC 0
    have z0:=obj_free hC 0
    have o1:=obj_set hC 0 (.slice (some ⟨wd.heap.size,0,none⟩) H H)
    have c1:=obj_cell o1 1
    have z1:=obj_free o1 1
    have o2:=obj_set o1 1 (.slice (some ⟨w29.heap.size,0,none⟩) size size)
    have c2:=obj_cell o2 2
    have z2:=obj_free o2 2
    have o3:=obj_set o2 2 (.int .i64 (sh:Int))
    have hgw:wc.heap.size≤w2.heap.size:=by have:=hwcd.out;omega
    have hk3:Kept NoB wc (((w295.setCell ⟨w2.heap.size,0,none⟩ (.slice (some ⟨wd.heap.size,0,none⟩) H H)).setCell ⟨w2.heap.size,1,none⟩ (.slice (some ⟨w29.heap.size,0,none⟩) size size)).setCell ⟨w2.heap.size,2,none⟩ (.int .i64 (sh:Int))):=Kept.setCell (p:=⟨w2.heap.size,2,none⟩) (Kept.setCell (p:=⟨w2.heap.size,1,none⟩) (Kept.setCell (p:=⟨w2.heap.size,0,none⟩) hHeld (.inr hgw) _) (.inr hgw) _) (.inr hgw) _
    refine wpAnyH_ready (rs:=[10]) (by kernel_rfl) (by simp) ?_
    refine AllReadyH.cons (by rw [List.getElem?_toArray];rfl) (fun K hK=>?_) AllReadyH.nil
    go_simp
    refine hK.out _ _ hk3 (fun hHeld=>?_)
    clear hK K
    try simp only [Act.put,List.setIfInBounds_toArray,List.set_cons_zero,List.set_cons_succ]
    refine wpAnyH_done (by kernel_rfl) ?_ _
    refine NoPanic.normal ?_
    obtain ⟨wz,hwz⟩:∃ wz,wz=(((w295.setCell ⟨w2.heap.size,0,none⟩ (.slice (some ⟨wd.heap.size,0,none⟩) H H)).setCell ⟨w2.heap.size,1,none⟩ (.slice (some ⟨w29.heap.size,0,none⟩) size size)).setCell ⟨w2.heap.size,2,none⟩ (.int .i64 (sh:Int))):=⟨_,rfl⟩
    have hF:NewC wc wz wd.heap.size w29.heap.size w2.heap.size H size sh (List.replicate H 0):=⟨by rw [hwz];exact ((hH.other (by omega) _ _).other (by omega) _ _).other (by omega) _ _,by rw [hwz];exact ((hB.other (by omega) _ _).other (by omega) _ _).other (by omega) _ _,by rw [hwz];exact o3,by omega,by omega,by omega,by have:=hwcd.out;omega,by have:=hwcd.out;omega,by have:=hwcd.out;omega,by rw [hwz];exact hHeld⟩
    rw [← hwz]
    have HF:=Hd hF
    clear hwz hF hH hB hC c0 c1 c2 z0 z1 z2 o1 o2 o3
    go_wp2
    go_meet
    exact ⟨_,_,_,rfl,HF⟩
  ·obtain ⟨w5,hrunw5,hpw5,hkw5,hltw5⟩:=mk_any wd size (by omega)
   go_simp
   refine hK.out _ _ (hHeld.trans hkw5) (fun hHeld=>?_)
   clear hK K
   try simp only [Act.put,List.setIfInBounds_toArray,List.set_cons_zero,List.set_cons_succ]
   have hB:=hpw5
   refine wpAnyH_ready (rs:=[2,9]) (by kernel_rfl) (by simp) ?_
   refine AllReadyH.cons (by rw [List.getElem?_toArray];rfl) (fun K hK=>?_) (AllReadyH.cons (by rw [List.getElem?_toArray];rfl) (fun K hK=>?_) AllReadyH.nil)
   ·obtain ⟨w52,hrunw52,hpw52,hkw52,hltw52⟩:=mk_any w5 H (by omega)
    go_simp
    refine hK.out _ _ (hHeld.trans hkw52) (fun hHeld=>?_)
    clear hK K
    try simp only [Act.put,List.setIfInBounds_toArray,List.set_cons_zero,List.set_cons_succ]
    have hH:=hpw52
    have hB:=hB.keptS hkw52 (fun h=>h)
    refine wpAnyH_take (i:=8) (v:=?_) (by rw [List.getElem?_toArray];rfl) (by kernel_rfl) (by kernel_rfl) (by kernel_rfl) (fun _ _ _ h=>h) (Or.inl ⟨by rfl,?hyq9_⟩) (by assumption) ?restq9_
    case hyq9_=>(intro w hSw;(try dsimp only at hSw);go_simp;(try with_reducible rfl))
    try simp only [Act.put,List.setIfInBounds_toArray,List.set_cons_zero,List.set_cons_succ]
    refine wpAnyH_ready (rs:=[9]) (by kernel_rfl) (by simp) ?_
    refine AllReadyH.cons (by rw [List.getElem?_toArray];rfl) (fun K hK=>?_) AllReadyH.nil
    go_simp
    refine hK.out _ _ (hHeld.alloc _) (fun hHeld=>?_)
    clear hK K
    try simp only [Act.put,List.setIfInBounds_toArray,List.set_cons_zero,List.set_cons_succ]
    obtain ⟨w529,hww529⟩:∃ n,n=w52.alloc (.cells #[.slice none 0 0,.slice none 0 0,.int .i64 0] 175):=⟨_,rfl⟩
    have hkw529:Kept NoB w52 w529:=by rw [hww529];exact (Kept.refl _ _).alloc _
    have hC:w529.heap[w52.heap.size]?=some (.cells #[.slice none 0 0,.slice none 0 0,.int .i64 0] 175 (0,0)):=by rw [hww529];exact heap_alloc_new _ _
    have hltw529:w52.heap.size < w529.heap.size:=by rw [hww529];simp
    rw [← hww529] at hHeld ⊢
    clear hww529
    have hH:=hH.keptS hkw529 (fun h=>h)
    have hB:=hB.keptS hkw529 (fun h=>h)
    have c0:=obj_cell hC 0
    have z0:=obj_free hC 0
    have o1:=obj_set hC 0 (.slice (some ⟨w5.heap.size,0,none⟩) H H)
    have c1:=obj_cell o1 1
    have z1:=obj_free o1 1
    have o2:=obj_set o1 1 (.slice (some ⟨wd.heap.size,0,none⟩) size size)
    have c2:=obj_cell o2 2
    have z2:=obj_free o2 2
    have o3:=obj_set o2 2 (.int .i64 (sh:Int))
    have hgw:wc.heap.size≤w52.heap.size:=by have:=hwcd.out;omega
    have hk3:Kept NoB wc (((w529.setCell ⟨w52.heap.size,0,none⟩ (.slice (some ⟨w5.heap.size,0,none⟩) H H)).setCell ⟨w52.heap.size,1,none⟩ (.slice (some ⟨wd.heap.size,0,none⟩) size size)).setCell ⟨w52.heap.size,2,none⟩ (.int .i64 (sh:Int))):=Kept.setCell (p:=⟨w52.heap.size,2,none⟩) (Kept.setCell (p:=⟨w52.heap.size,1,none⟩) (Kept.setCell (p:=⟨w52.heap.size,0,none⟩) hHeld (.inr hgw) _) (.inr hgw) _) (.inr hgw) _
    refine wpAnyH_ready (rs:=[10]) (by kernel_rfl) (by simp) ?_
    refine AllReadyH.cons (by rw [List.getElem?_toArray];rfl) (fun K hK=>?_) AllReadyH.nil
    go_simp
    refine hK.out _ _ hk3 (fun hHeld=>?_)
    clear hK K
    try simp only [Act.put,List.setIfInBounds_toArray,List.set_cons_zero,List.set_cons_succ]
    refine wpAnyH_done (by kernel_rfl) ?_ _
    refine NoPanic.normal ?_
    obtain ⟨wz,hwz⟩:∃ wz,wz=(((w529.setCell ⟨w52.heap.size,0,none⟩ (.slice (some ⟨w5.heap.size,0,none⟩) H H)).setCell ⟨w52.heap.size,1,none⟩ (.slice (some ⟨wd.heap.size,0,none⟩) size size)).setCell ⟨w52.heap.size,2,none⟩ (.int .i64 (sh:Int))):=⟨_,rfl⟩
    have hF:NewC wc wz w5.heap.size wd.heap.size w52.heap.size H size sh (List.replicate H 0):=⟨by rw [hwz];exact ((hH.other (by omega) _ _).other (by omega) _ _).other (by omega) _ _,by rw [hwz];exact ((hB.other (by omega) _ _).other (by omega) _ _).other (by omega) _ _,by rw [hwz];exact o3,by omega,by omega,by omega,by have:=hwcd.out;omega,by have:=hwcd.out;omega,by have:=hwcd.out;omega,by rw [hwz];exact hHeld⟩
    rw [← hwz]
    have HF:=Hd hF
    clear hwz hF hH hB hC c0 c1 c2 z0 z1 z2 o1 o2 o3
    go_wp2
    go_meet
    exact ⟨_,_,_,rfl,HF⟩
   ·go_simp
    refine hK.out _ _ (hHeld.alloc _) (fun hHeld=>?_)
    clear hK K
    try simp only [Act.put,List.setIfInBounds_toArray,List.set_cons_zero,List.set_cons_succ]
    obtain ⟨w59,hww59⟩:∃ n,n=w5.alloc (.cells #[.slice none 0 0,.slice none 0 0,.int .i64 0] 175):=⟨_,rfl⟩
    have hkw59:Kept NoB w5 w59:=by rw [hww59];exact (Kept.refl _ _).alloc _
    have hC:w59.heap[w5.heap.size]?=some (.cells #[.slice none 0 0,.slice none 0 0,.int .i64 0] 175 (0,0)):=by rw [hww59];exact heap_alloc_new _ _
    have hltw59:w5.heap.size < w59.heap.size:=by rw [hww59];simp
    rw [← hww59] at hHeld ⊢
    clear hww59
    have hB:=hB.keptS hkw59 (fun h=>h)
    refine wpAnyH_ready (rs:=[2]) (by kernel_rfl) (by simp) ?_
    refine AllReadyH.cons (by rw [List.getElem?_toArray];rfl) (fun K hK=>?_) AllReadyH.nil
    obtain ⟨w592,hrunw592,hpw592,hkw592,hltw592⟩:=mk_any w59 H (by omega)
    go_simp
    refine hK.out _ _ (hHeld.trans hkw592) (fun hHeld=>?_)
    clear hK K
    try simp only [Act.put,List.setIfInBounds_toArray,List.set_cons_zero,List.set_cons_succ]
    have hH:=hpw592
    have hB:=hB.keptS hkw592 (fun h=>h)
    have hC:=hkw592.obj hC (fun h=>h)
    refine wpAnyH_take (i:=8) (v:=?_) (by rw [List.getElem?_toArray];rfl) (by kernel_rfl) (by kernel_rfl) (by kernel_rfl) (fun _ _ _ h=>h) (Or.inl ⟨by rfl,?hyq10_⟩) (by assumption) ?restq10_
    case hyq10_=>(intro w hSw;(try dsimp only at hSw);go_simp;(try with_reducible rfl))
    try simp only [Act.put,List.setIfInBounds_toArray,List.set_cons_zero,List.set_cons_succ]
    have c0:=obj_cell hC 0
    have z0:=obj_free hC 0
    have o1:=obj_set hC 0 (.slice (some ⟨w59.heap.size,0,none⟩) H H)
    have c1:=obj_cell o1 1
    have z1:=obj_free o1 1
    have o2:=obj_set o1 1 (.slice (some ⟨wd.heap.size,0,none⟩) size size)
    have c2:=obj_cell o2 2
    have z2:=obj_free o2 2
    have o3:=obj_set o2 2 (.int .i64 (sh:Int))
    have hgw:wc.heap.size≤w5.heap.size:=by have:=hwcd.out;omega
    have hk3:Kept NoB wc (((w592.setCell ⟨w5.heap.size,0,none⟩ (.slice (some ⟨w59.heap.size,0,none⟩) H H)).setCell ⟨w5.heap.size,1,none⟩ (.slice (some ⟨wd.heap.size,0,none⟩) size size)).setCell ⟨w5.heap.size,2,none⟩ (.int .i64 (sh:Int))):=Kept.setCell (p:=⟨w5.heap.size,2,none⟩) (Kept.setCell (p:=⟨w5.heap.size,1,none⟩) (Kept.setCell (p:=⟨w5.heap.size,0,none⟩) hHeld (.inr hgw) _) (.inr hgw) _) (.inr hgw) _
    refine wpAnyH_ready (rs:=[10]) (by kernel_rfl) (by simp) ?_
    refine AllReadyH.cons (by rw [List.getElem?_toArray];rfl) (fun K hK=>?_) AllReadyH.nil
    go_simp
    refine hK.out _ _ hk3 (fun hHeld=>?_)
    clear hK K
    try simp only [Act.put,List.setIfInBounds_toArray,List.set_cons_zero,List.set_cons_succ]
    refine wpAnyH_done (by kernel_rfl) ?_ _
    refine NoPanic.normal ?_
    obtain ⟨wz,hwz⟩:∃ wz,wz=(((w592.setCell ⟨w5.heap.size,0,none⟩ (.slice (some ⟨w59.heap.size,0,none⟩) H H)).setCell ⟨w5.heap.size,1,none⟩ (.slice (some ⟨wd.heap.size,0,none⟩) size size)).setCell ⟨w5.heap.size,2,none⟩ (.int .i64 (sh:Int))):=⟨_,rfl⟩
    have hF:NewC wc wz w59.heap.size wd.heap.size w5.heap.size H size sh (List.replicate H 0):=⟨by rw [hwz];exact ((hH.other (by omega) _ _).other (by omega) _ _).other (by omega) _ _,by rw [hwz];exact ((hB.other (by omega) _ _).other (by omega) _ _).other (by omega) _ _,by rw [hwz];exact o3,by omega,by omega,by omega,by have:=hwcd.out;omega,by have:=hwcd.out;omega,by have:=hwcd.out;omega,by rw [hwz];exact hHeld⟩
    rw [← hwz]
    have HF:=Hd hF
    clear hwz hF hH hB hC c0 c1 c2 z0 z1 z2 o1 o2 o3
    go_wp2
    go_meet
    exact ⟨_,_,_,rfl,HF⟩
  ·go_simp
   refine hK.out _ _ (hHeld.alloc _) (fun hHeld=>?_)
   clear hK K
   try simp only [Act.put,List.setIfInBounds_toArray,List.set_cons_zero,List.set_cons_succ]
   obtain ⟨w9,hww9⟩:∃ n,n=wd.alloc (.cells #[.slice none 0 0,.slice none 0 0,.int .i64 0] 175):=⟨_,rfl⟩
   have hkw9:Kept NoB wd w9:=by rw [hww9];exact (Kept.refl _ _).alloc _
   have hC:w9.heap[wd.heap.size]?=some (.cells #[.slice none 0 0,.slice none 0 0,.int .i64 0] 175 (0,0)):=by rw [hww9];exact heap_alloc_new _ _
   have hltw9:wd.heap.size < w9.heap.size:=by rw [hww9];simp
   rw [← hww9] at hHeld ⊢
   clear hww9
   refine wpAnyH_ready (rs:=[2,5]) (by kernel_rfl) (by simp) ?_
   refine AllReadyH.cons (by rw [List.getElem?_toArray];rfl) (fun K hK=>?_) (AllReadyH.cons (by rw [List.getElem?_toArray];rfl) (fun K hK=>?_) AllReadyH.nil)
   ·obtain ⟨w92,hrunw92,hpw92,hkw92,hltw92⟩:=mk_any w9 H (by omega)
    go_simp
    refine hK.out _ _ (hHeld.trans hkw92) (fun hHeld=>?_)
    clear hK K
    try simp only [Act.put,List.setIfInBounds_toArray,List.set_cons_zero,List.set_cons_succ]
    have hH:=hpw92
    have hC:=hkw92.obj hC (fun h=>h)
    refine wpAnyH_ready (rs:=[5]) (by kernel_rfl) (by simp) ?_
    refine AllReadyH.cons (by rw [List.getElem?_toArray];rfl) (fun K hK=>?_) AllReadyH.nil
    obtain ⟨w925,hrunw925,hpw925,hkw925,hltw925⟩:=mk_any w92 size (by omega)
    go_simp
    refine hK.out _ _ (hHeld.trans hkw925) (fun hHeld=>?_)
    clear hK K
    try simp only [Act.put,List.setIfInBounds_toArray,List.set_cons_zero,List.set_cons_succ]
    have hB:=hpw925
    have hH:=hH.keptS hkw925 (fun h=>h)
    have hC:=hkw925.obj hC (fun h=>h)
    refine wpAnyH_take (i:=8) (v:=?_) (by rw [List.getElem?_toArray];rfl) (by kernel_rfl) (by kernel_rfl) (by kernel_rfl) (fun _ _ _ h=>h) (Or.inl ⟨by rfl,?hyq11_⟩) (by assumption) ?restq11_
    case hyq11_=>(intro w hSw;(try dsimp only at hSw);go_simp;(try with_reducible rfl))
    try simp only [Act.put,List.setIfInBounds_toArray,List.set_cons_zero,List.set_cons_succ]
    have c0:=obj_cell hC 0
    have z0:=obj_free hC 0
    have o1:=obj_set hC 0 (.slice (some ⟨w9.heap.size,0,none⟩) H H)
    have c1:=obj_cell o1 1
    have z1:=obj_free o1 1
    have o2:=obj_set o1 1 (.slice (some ⟨w92.heap.size,0,none⟩) size size)
    have c2:=obj_cell o2 2
    have z2:=obj_free o2 2
    have o3:=obj_set o2 2 (.int .i64 (sh:Int))
    have hgw:wc.heap.size≤wd.heap.size:=by have:=hwcd.out;omega
    have hk3:Kept NoB wc (((w925.setCell ⟨wd.heap.size,0,none⟩ (.slice (some ⟨w9.heap.size,0,none⟩) H H)).setCell ⟨wd.heap.size,1,none⟩ (.slice (some ⟨w92.heap.size,0,none⟩) size size)).setCell ⟨wd.heap.size,2,none⟩ (.int .i64 (sh:Int))):=Kept.setCell (p:=⟨wd.heap.size,2,none⟩) (Kept.setCell (p:=⟨wd.heap.size,1,none⟩) (Kept.setCell (p:=⟨wd.heap.size,0,none⟩) hHeld (.inr hgw) _) (.inr hgw) _) (.inr hgw) _
    refine wpAnyH_ready (rs:=[10]) (by kernel_rfl) (by simp) ?_
    refine AllReadyH.cons (by rw [List.getElem?_toArray];rfl) (fun K hK=>?_) AllReadyH.nil
    go_simp
    refine hK.out _ _ hk3 (fun hHeld=>?_)
    clear hK K
    try simp only [Act.put,List.setIfInBounds_toArray,List.set_cons_zero,List.set_cons_succ]
    refine wpAnyH_done (by kernel_rfl) ?_ _
    refine NoPanic.normal ?_
    obtain ⟨wz,hwz⟩:∃ wz,wz=(((w925.setCell ⟨wd.heap.size,0,none⟩ (.slice (some ⟨w9.heap.size,0,none⟩) H H)).setCell ⟨wd.heap.size,1,none⟩ (.slice (some ⟨w92.heap.size,0,none⟩) size size)).setCell ⟨wd.heap.size,2,none⟩ (.int .i64 (sh:Int))):=⟨_,rfl⟩
    have hF:NewC wc wz w9.heap.size w92.heap.size wd.heap.size H size sh (List.replicate H 0):=⟨by rw [hwz];exact ((hH.other (by omega) _ _).other (by omega) _ _).other (by omega) _ _,by rw [hwz];exact ((hB.other (by omega) _ _).other (by omega) _ _).other (by omega) _ _,by rw [hwz];exact o3,by omega,by omega,by omega,by have:=hwcd.out;omega,by have:=hwcd.out;omega,by have:=hwcd.out;omega,by rw [hwz];exact hHeld⟩
    rw [← hwz]
    have HF:=Hd hF
    clear hwz hF hH hB hC c0 c1 c2 z0 z1 z2 o1 o2 o3
    go_wp2
    go_meet
    exact ⟨_,_,_,rfl,HF⟩
   ·obtain ⟨w95,hrunw95,hpw95,hkw95,hltw95⟩:=mk_any w9 size (by omega)
    go_simp
    refine hK.out _ _ (hHeld.trans hkw95) (fun hHeld=>?_)
    clear hK K
    try simp only [Act.put,List.setIfInBounds_toArray,List.set_cons_zero,List.set_cons_succ]
    have hB:=hpw95
    have hC:=hkw95.obj hC (fun h=>h)
    refine wpAnyH_ready (rs:=[2]) (by kernel_rfl) (by simp) ?_
    refine AllReadyH.cons (by rw [List.getElem?_toArray];rfl) (fun K hK=>?_) AllReadyH.nil
    obtain ⟨w952,hrunw952,hpw952,hkw952,hltw952⟩:=mk_any w95 H (by omega)
    go_simp
    refine hK.out _ _ (hHeld.trans hkw952) (fun hHeld=>?_)
    clear hK K
    try simp only [Act.put,List.setIfInBounds_toArray,List.set_cons_zero,List.set_cons_succ]
    have hH:=hpw952
    have hB:=hB.keptS hkw952 (fun h=>h)
    have hC:=hkw952.obj hC (fun h=>h)
    refine wpAnyH_take (i:=8) (v:=?_) (by rw [List.getElem?_toArray];rfl) (by kernel_rfl) (by kernel_rfl) (by kernel_rfl) (fun _ _ _ h=>h) (Or.inl ⟨by rfl,?hyq12_⟩) (by assumption) ?restq12_
    case hyq12_=>(intro w hSw;(try dsimp only at hSw);go_simp;(try with_reducible rfl))
    try simp only [Act.put,List.setIfInBounds_toArray,List.set_cons_zero,List.set_cons_succ]
    have c0:=obj_cell hC 0
    have z0:=obj_free hC 0
    have o1:=obj_set hC 0 (.slice (some ⟨w95.heap.size,0,none⟩) H H)
    have c1:=obj_cell o1 1
    have z1:=obj_free o1 1
    have o2:=obj_set o1 1 (.slice (some ⟨w9.heap.size,0,none⟩) size size)
    have c2:=obj_cell o2 2
    have z2:=obj_free o2 2
    have o3:=obj_set o2 2 (.int .i64 (sh:Int))
    have hgw:wc.heap.size≤wd.heap.size:=by have:=hwcd.out;omega
    have hk3:Kept NoB wc (((w952.setCell ⟨wd.heap.size,0,none⟩ (.slice (some ⟨w95.heap.size,0,none⟩) H H)).setCell ⟨wd.heap.size,1,none⟩ (.slice (some ⟨w9.heap.size,0,none⟩) size size)).setCell ⟨wd.heap.size,2,none⟩ (.int .i64 (sh:Int))):=Kept.setCell (p:=⟨wd.heap.size,2,none⟩) (Kept.setCell (p:=⟨wd.heap.size,1,none⟩) (Kept.setCell (p:=⟨wd.heap.size,0,none⟩) hHeld (.inr hgw) _) (.inr hgw) _) (.inr hgw) _
    refine wpAnyH_ready (rs:=[10]) (by kernel_rfl) (by simp) ?_
    refine AllReadyH.cons (by rw [List.getElem?_toArray];rfl) (fun K hK=>?_) AllReadyH.nil
    go_simp
    refine hK.out _ _ hk3 (fun hHeld=>?_)
    clear hK K
    try simp only [Act.put,List.setIfInBounds_toArray,List.set_cons_zero,List.set_cons_succ]
    refine wpAnyH_done (by kernel_rfl) ?_ _
    refine NoPanic.normal ?_
    obtain ⟨wz,hwz⟩:∃ wz,wz=(((w952.setCell ⟨wd.heap.size,0,none⟩ (.slice (some ⟨w95.heap.size,0,none⟩) H H)).setCell ⟨wd.heap.size,1,none⟩ (.slice (some ⟨w9.heap.size,0,none⟩) size size)).setCell ⟨wd.heap.size,2,none⟩ (.int .i64 (sh:Int))):=⟨_,rfl⟩
    have hF:NewC wc wz w95.heap.size w9.heap.size wd.heap.size H size sh (List.replicate H 0):=⟨by rw [hwz];exact ((hH.other (by omega) _ _).other (by omega) _ _).other (by omega) _ _,by rw [hwz];exact ((hB.other (by omega) _ _).other (by omega) _ _).other (by omega) _ _,by rw [hwz];exact o3,by omega,by omega,by omega,by have:=hwcd.out;omega,by have:=hwcd.out;omega,by have:=hwcd.out;omega,by rw [hwz];exact hHeld⟩
    rw [← hwz]
    have HF:=Hd hF
    clear hwz hF hH hB hC c0 c1 c2 z0 z1 z2 o1 o2 o3
    go_wp2
    go_meet
    exact ⟨_,_,_,rfl,HF⟩
 case rest=>
 obtain ⟨gh,gb,gc,rfl,HN⟩:=hcut
 obtain ⟨wn,hwn⟩:∃ wn,wn=wc:=⟨_,rfl⟩
 rw [← hwn] at HN ⊢
 have HR1:=Hd (HN.out.kept.obj HR0.out (fun h=>h))
 have hrg:w.heap.size < gh∧w.heap.size < gb∧w.heap.size < gc:=by
  have h1:=HN.out.f1;have h2:=HN.out.f2;have h3:=HN.out.f3
  omega
 have HN0:Hid (NewC w wn gh gb gc H size sh (List.replicate 0 (-1)++List.replicate (H - 0) 0)):=Hd ⟨HN.out.h,HN.out.b,HN.out.c,HN.out.n1,HN.out.n2,HN.out.n3,by omega,by omega,by omega,HKx.out.trans HN.out.kept⟩
 obtain ⟨R,hR⟩:∃ R,R=w.heap.size:=⟨_,rfl⟩
 rw [← hR] at HR1 hrg ⊢
 have HRw:=Hd hR
 have hc0:=obj_cell HN.out.c 0
 clear hwn HN HR0 hsx hR HLen
 go_wp2
 go_loopw [5,23] (fun v5 v23 wr=>∃ i:Nat,v23 = .int .i64 (i:Int)∧i≤H∧Hid (NewC w wr gh gb gc H size sh (List.replicate i (-1)++List.replicate (H - i) 0))∧Hid (wr.heap[R]?=some (.cells #[.slice none 0 0,.slice none 0 0,.int .i64 0] 175 (0,0)))) (fun _ v23 _=>H - (intOf v23).toNat)
 case atStart=>exact ⟨0,rfl,by omega,HN0,HR1⟩
 case round=>
  obtain ⟨i,rfl,hi,HN,HR⟩:=hrel
  by_cases hlt:i < H
  ·have hli:(i:Int) < (H:Int):=by omega
   have hg0:=obj_cell HN.out.c 0
   have hcl:=HN.out.h.cell i (by simp;omega)
   have hfz:wr.frozen? ⟨gh,i,none⟩=false:=obj_free HN.out.h i
   have hset:=HN.out.h.set i (-1)
   have hl:(List.replicate i (-1:Int)++List.replicate (H - i) 0).set i (-1)=List.replicate (i+1) (-1)++List.replicate (H - (i+1)) 0:=by
    obtain ⟨k,hk⟩:∃ k,H - i=k+1:=⟨H - i - 1,by omega⟩
    rw [hk,show H - (i+1)=k by omega,List.replicate_succ,List.set_append_right _ _ (by simp),List.length_replicate,Nat.sub_self,List.set_cons_zero,List.replicate_succ' (n:=i)]
    simp
   rw [hl] at hset
   have HNn:Hid (NewC w (wr.setCell ⟨gh,i,none⟩ (.int .i32 (-1))) gh gb gc H size sh (List.replicate (i+1) (-1)++List.replicate (H - (i+1)) 0)):=Hd ⟨hset,HN.out.b.other HN.out.n1 _ _,(Below.heap_setCell _ _ _ _ (fun e=>HN.out.n2 e.symm)).trans HN.out.c,HN.out.n1,HN.out.n2,HN.out.n3,HN.out.f1,HN.out.f2,HN.out.f3,Kept.setCell (p:=⟨gh,i,none⟩) HN.out.kept (.inr HN.out.f1) _⟩
   have HRn:Hid ((wr.setCell ⟨gh,i,none⟩ (.int .i32 (-1))).heap[R]?=some (.cells #[.slice none 0 0,.slice none 0 0,.int .i64 0] 175 (0,0))):=Hd ((Below.heap_setCell _ _ _ _ (fun e=>by have e2:R=gh:=e;omega)).trans HR.out)
   clear hset hl
   go_wp2
   go_roundw
   case rel=>exact ⟨i+1,by go_num,by omega,HNn,HRn⟩
   case measure=>simp [intOf] <;> omega
  ·have hie:i=H:=by omega
   have hrp:List.replicate i (-1:Int)++List.replicate (H - i) 0=List.replicate (2 ^ W) (-1):=by rw [hie,Nat.sub_self,HH.out];simp
   have HNe:Hid (NewC w wr gh gb gc H size sh (List.replicate (2 ^ W) (-1))):=Hd (by rw [← hrp];exact HN.out)
   have hli:¬ (i:Int) < (H:Int):=by omega
   have e0:=obj_cell HN.out.c 0
   have e1:=obj_cell HN.out.c 1
   have e2:=obj_cell HN.out.c 2
   have c0:=obj_cell HR.out 0
   have z0:=obj_free HR.out 0
   have o1:=obj_set HR.out 0 (.slice (some ⟨gh,0,none⟩) H H)
   have c1:=obj_cell o1 1
   have z1:=obj_free o1 1
   have o2:=obj_set o1 1 (.slice (some ⟨gb,0,none⟩) size size)
   have c2:=obj_cell o2 2
   have z2:=obj_free o2 2
   have o3:=obj_set o2 2 (.int .i64 (sh:Int))
   have hRw:=HRw.out
   have hk3:Kept NoB w (((wr.setCell ⟨R,0,none⟩ (.slice (some ⟨gh,0,none⟩) H H)).setCell ⟨R,1,none⟩ (.slice (some ⟨gb,0,none⟩) size size)).setCell ⟨R,2,none⟩ (.int .i64 (sh:Int))):=Kept.setCell (p:=⟨R,2,none⟩) (Kept.setCell (p:=⟨R,1,none⟩) (Kept.setCell (p:=⟨R,0,none⟩) HN.out.kept (.inr (by show w.heap.size≤R;omega)) _) (.inr (by show w.heap.size≤R;omega)) _) (.inr (by show w.heap.size≤R;omega)) _
   have HO3:=Hd o3;have HK3:=Hd hk3
   have HPh:=Hd (((HNe.out.h.other (k:=R) (by omega) 0 (.slice (some ⟨gh,0,none⟩) H H)).other (k:=R) (by omega) 1 (.slice (some ⟨gb,0,none⟩) size size)).other (k:=R) (by omega) 2 (.int .i64 (sh:Int)))
   have HPb:=Hd (((HNe.out.b.other (k:=R) (by omega) 0 (.slice (some ⟨gh,0,none⟩) H H)).other (k:=R) (by omega) 1 (.slice (some ⟨gb,0,none⟩) size size)).other (k:=R) (by omega) 2 (.int .i64 (sh:Int)))
   clear hie hrp o1 o2 o3 hk3 hRw
   go_wp2
   refine bodyPost_ret (results_cell_row rfl _ _ R 175 #[.slice (some ⟨gh,0,none⟩) H H,.slice (some ⟨gb,0,none⟩) size size,.int .i64 (sh:Int)] (0,0) _ rfl HO3.out Tryz.underlying175 rfl infoCh) rfl ?_
   exact ⟨W,hW1.1,hW1.2,gh,gb,by rw [← HH.out,← HSh.out],HPh.out,HPb.out,HNe.out.n1,HNe.out.f1,HNe.out.f2,HK3.out⟩
def InB (lo hi:Nat):Nat→Prop:=fun k=>lo≤k∧k < hi
def seekC (ao:Option Addr)(n c next W1 gh1 gb1 W2 gh2 gb2:Nat):Array Value:=#[.slice ao n c,.int .i64 (next:Int),.slice (some ⟨gh1,0,none⟩) (2 ^ W1) (2 ^ W1),.slice (some ⟨gb1,0,none⟩) n n,.int .i64 ((64 - W1:Nat):Int),.slice (some ⟨gh2,0,none⟩) (2 ^ W2) (2 ^ W2),.slice (some ⟨gb2,0,none⟩) n n,.int .i64 ((64 - W2:Nat):Int)]
def slotK (W:Nat)(L:List UInt8)(k p:Nat):Nat:=slotN W (keyN L k p)
structure SkB (lo hi Sk W1 gh1 gb1 W2 gh2 gb2:Nat):Prop where
 w1:4≤W1∧W1≤16
 w2:4≤W2∧W2≤16
 b0:lo≤Sk∧Sk < hi
 b1:lo≤gh1∧gh1 < hi
 b2:lo≤gb1∧gb1 < hi
 b3:lo≤gh2∧gh2 < hi
 b4:lo≤gb2∧gb2 < hi
 n01:Sk≠gh1
 n02:Sk≠gb1
 n03:Sk≠gh2
 n04:Sk≠gb2
 n12:gh1≠gb1
 n13:gh1≠gh2
 n14:gh1≠gb2
 n23:gb1≠gh2
 n24:gb1≠gb2
 n34:gh2≠gb2
structure SeekSt (w:World)(Sk:Nat)(ao:Option Addr)(c next na1 na2 W1 gh1 gb1 W2 gh2 gb2:Nat)(L:List UInt8)(hs1 bs1 hs2 bs2:List Int):Prop where
 obj:w.heap[Sk]?=some (.cells (seekC ao L.length c next W1 gh1 gb1 W2 gh2 gb2) 178 (0,0))
 h1:PlcAt w gh1 hs1
 r1:PlcAt w gb1 bs1
 h2:PlcAt w gh2 hs2
 r2:PlcAt w gb2 bs2
 l1:bs1.length=L.length
 l2:bs2.length=L.length
 c1:ChainP (slotK W1 L 3) (2 ^ W1) na1 hs1 bs1
 c2:ChainP (slotK W2 L 8) (2 ^ W2) na2 hs2 bs2
theorem SeekSt.keptS {S:Nat→Prop}{w w':World}{lo hi Sk:Nat}{ao:Option Addr}{c next na1 na2 W1 gh1 gb1 W2 gh2 gb2:Nat}{L:List UInt8}{hs1 bs1 hs2 bs2:List Int}(h:SeekSt w Sk ao c next na1 na2 W1 gh1 gb1 W2 gh2 gb2 L hs1 bs1 hs2 bs2)(hb:SkB lo hi Sk W1 gh1 gb1 W2 gh2 gb2)(hk:Kept S w w')(hs:∀ k,InB lo hi k→¬ S k):SeekSt w' Sk ao c next na1 na2 W1 gh1 gb1 W2 gh2 gb2 L hs1 bs1 hs2 bs2:=
 ⟨hk.obj h.obj (hs _ hb.b0),h.h1.keptS hk (hs _ hb.b1),h.r1.keptS hk (hs _ hb.b2),h.h2.keptS hk (hs _ hb.b3),h.r2.keptS hk (hs _ hb.b4),h.l1,h.l2,h.c1,h.c2⟩
theorem Kept.dom {S:Nat→Prop}{w w':World}(h:Kept NoB w w'):Kept S w w':=h.mono (fun _ _ h=>absurd h (fun h=>h))
theorem SeekSt.cells {w:World}{Sk:Nat}{ao:Option Addr}{c next na1 na2 W1 gh1 gb1 W2 gh2 gb2:Nat}{L:List UInt8}{hs1 bs1 hs2 bs2:List Int}(h:SeekSt w Sk ao c next na1 na2 W1 gh1 gb1 W2 gh2 gb2 L hs1 bs1 hs2 bs2):
  w.cell? ⟨Sk,0,none⟩=some (.slice ao L.length c)∧w.cell? ⟨Sk,1,none⟩=some (.int .i64 (next:Int))∧ChAt w Sk 2 W1 gh1 gb1 (2 ^ W1) L.length∧ChAt w Sk 5 W2 gh2 gb2 (2 ^ W2) L.length:=
 ⟨obj_cell h.obj 0,obj_cell h.obj 1,⟨obj_cell h.obj 2,obj_cell h.obj 3,obj_cell h.obj 4⟩,⟨obj_cell h.obj 5,obj_cell h.obj 6,obj_cell h.obj 7⟩⟩
set_option maxRecDepth 100000 in
theorem newseek_any (ao:Option Addr)(c:Nat)(L:List UInt8)(w:World)(hn:L.length≤32768):
  Calls Tryz.prog 86 #[.slice ao L.length c] w fun e w'=>∃ Sk W1 gh1 gb1 W2 gh2 gb2 hs1 bs1 hs2 bs2,e = .returned (.pointer (some ⟨Sk,0,none⟩))∧SkB w.heap.size w'.heap.size Sk W1 gh1 gb1 W2 gh2 gb2∧SeekSt w' Sk ao c 0 0 0 W1 gh1 gb1 W2 gh2 gb2 L hs1 bs1 hs2 bs2∧Kept NoB w w':=by
 have HN:=Hd (fun W=>newchain_any L.length W hn)
 have hnb:L.length≤9223372036854775807:=by omega
 obtain ⟨n,hn'⟩:∃ n,n=L.length:=⟨_,rfl⟩
 rw [← hn'] at HN hnb ⊢
 have HNn:=Hd hn'
 clear hn'
 go_enter Tryz.func86,Tryz.ntmps86
 go_wp2_with fail
 with_reducible refine (HN.out _).mono ?_
 rintro e w1 ⟨W1,gh1,gb1,a1,a2,rfl,a3,a4,a5,a6,a7,a8⟩
 have A3:=Hd a3;have A4:=Hd a4;have A8:=Hd a8;have A12:=Hd (⟨a1,a2,a5,a6,a7⟩:4≤W1∧W1≤16∧gh1≠gb1∧w.heap.size≤gh1∧w.heap.size≤gb1)
 clear a1 a2 a3 a4 a5 a6 a7 a8
 obtain ⟨H1,hH1⟩:∃ H1,H1=2 ^ W1:=⟨_,rfl⟩
 rw [← hH1] at A3 ⊢
 obtain ⟨s1,hs1⟩:∃ s1,s1=64 - W1:=⟨_,rfl⟩
 rw [← hs1]
 have HH1:=Hd hH1;have HS1:=Hd hs1
 clear hH1 hs1
 go_wp2_with fail
 with_reducible refine (HN.out _).mono ?_
 rintro e w2 ⟨W2,gh2,gb2,a1,a2,rfl,a3,a4,a5,a6,a7,a8⟩
 have B3:=Hd a3;have B4:=Hd a4;have B8:=Hd a8;have B12:=Hd (⟨a1,a2,a5,a6,a7⟩:4≤W2∧W2≤16∧gh2≠gb2∧w1.heap.size≤gh2∧w1.heap.size≤gb2)
 clear a1 a2 a3 a4 a5 a6 a7 a8
 obtain ⟨H2,hH2⟩:∃ H2,H2=2 ^ W2:=⟨_,rfl⟩
 rw [← hH2] at B3 ⊢
 obtain ⟨s2,hs2⟩:∃ s2,s2=64 - W2:=⟨_,rfl⟩
 rw [← hs2]
 have HH2:=Hd hH2;have HS2:=Hd hs2
 clear hH2 hs2
 go_wp2
 go_ret
 obtain ⟨x1,x2,x3,x4,x5⟩:=A12.out
 obtain ⟨y1,y2,y3,y4,y5⟩:=B12.out
 have k1:=A8.out.size
 have k2:=B8.out.size
 obtain ⟨wz,hwz⟩:∃ wz,wz=w2.alloc (.cells #[.slice ao n c,.int .i64 0,.slice (some ⟨gh1,0,none⟩) H1 H1,.slice (some ⟨gb1,0,none⟩) n n,.int .i64 (s1:Int),.slice (some ⟨gh2,0,none⟩) H2 H2,.slice (some ⟨gb2,0,none⟩) n n,.int .i64 (s2:Int)] 178):=⟨_,rfl⟩
 rw [← hwz]
 have hkz:Kept NoB w2 wz:=by rw [hwz];exact (Kept.refl _ _).alloc _
 have hsz:wz.heap.size=w2.heap.size+1:=by rw [hwz];simp
 have P1:=(A3.out.keptS B8.out (fun h=>h)).keptS hkz (fun h=>h)
 have P2:=(A4.out.keptS B8.out (fun h=>h)).keptS hkz (fun h=>h)
 have P3:=B3.out.keptS hkz (fun h=>h)
 have P4:=B4.out.keptS hkz (fun h=>h)
 have q1:gh1 < w1.heap.size:=(Array.getElem?_eq_some_iff.1 A3.out).1
 have q2:gb1 < w1.heap.size:=(Array.getElem?_eq_some_iff.1 A4.out).1
 have q3:gh2 < w2.heap.size:=(Array.getElem?_eq_some_iff.1 B3.out).1
 have q4:gb2 < w2.heap.size:=(Array.getElem?_eq_some_iff.1 B4.out).1
 refine ⟨w2.heap.size,W1,gh1,gb1,W2,gh2,gb2,_,_,_,_,rfl,⟨⟨x1,x2⟩,⟨y1,y2⟩,by omega,by omega,by omega,by omega,by omega,by omega,by omega,by omega,by omega,x3,by omega,by omega,by omega,by omega,y3⟩,⟨?_,P1,P2,P3,P4,?_,?_,by rw [← HH1.out];exact ChainP.start _ _ _,by rw [← HH2.out];exact ChainP.start _ _ _⟩,(A8.out.trans B8.out).trans hkz⟩
 ·rw [hwz,seekC,← HNn.out,← HH1.out,← HH2.out,← HS1.out,← HS2.out]
  exact heap_alloc_new _ _
 ·rw [List.length_replicate];exact HNn.out
 ·rw [List.length_replicate];exact HNn.out
set_option maxRecDepth 100000 in
theorem shortkey_any (B g o n c p:Nat)(L:List UInt8)(w:World)(c0:w.cell? ⟨B,0,none⟩=some (.slice (some ⟨g,o,none⟩) n c))(hr:RdB w g o L 0 n)(hn:n=L.length)(hp:p+3≤n)(hnm:n≤9223372036854775807):
  Calls Tryz.prog 120 #[.pointer (some ⟨B,0,none⟩),.int .i64 (p:Int)] w fun e w'=>e = .returned (.int .u64 ((keyN L 3 p:Nat):Int))∧Kept NoB w w':=by
 have hk:=key3 L p (by omega)
 have d0:=hr p (by omega);have d1:=hr (p+1) (by omega);have d2:=hr (p+2) (by omega)
 rw [Nat.zero_add] at d0 d1 d2
 obtain ⟨K,hK⟩:∃ K:Int,K=(keyN L 3 p:Int):=⟨_,rfl⟩
 rw [← hK] at hk ⊢
 have hb:∀ i,(L.getD i 0).toNat < 256:=fun i=>(L.getD i 0).toNat_lt
 have q0:=hb p;have q1:=hb (p+1);have q2:=hb (p+2)
 generalize (L.getD p 0).toNat=b0 at *
 generalize (L.getD (p+1) 0).toNat=b1 at *
 generalize (L.getD (p+2) 0).toNat=b2 at *
 obtain ⟨p1,hp1⟩:∃ p1,p1=p+1:=⟨_,rfl⟩
 obtain ⟨p2,hp2⟩:∃ p2,p2=p+2:=⟨_,rfl⟩
 rw [← hp1] at d1
 rw [← hp2] at d2
 have i1:(p:Int)+1=(p1:Int):=by omega
 have i2:(p:Int)+2=(p2:Int):=by omega
 have w1:IntKind.i64.wrap (p1:Int)=(p1:Int):=IntWalk.i64_in _ (by omega)
 have w2:IntKind.i64.wrap (p2:Int)=(p2:Int):=IntWalk.i64_in _ (by omega)
 have r0:(p:Int) < (n:Int):=by omega
 have r1:(p1:Int) < (n:Int):=by omega
 have r2:(p2:Int) < (n:Int):=by omega
 have HK:=Hd hk
 clear hk hK hb hr hp1 hp2 hn
 go_enter Tryz.func120,Tryz.ntmps120
 go_wp2
 go_quiet (fail)
 go_wp2
 go_ret
 refine ⟨?_,(Kept.refl NoB w).drewN _⟩
 simp (disch:=omega) only [u64_wrap_id,u64_or8,u64_or16]
 rw [HK.out]
 rfl
end Go.Proofs.YtfmjfgmbjdhogaaGreatDoor
