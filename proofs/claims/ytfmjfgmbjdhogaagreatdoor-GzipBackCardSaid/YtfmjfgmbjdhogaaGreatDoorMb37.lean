import Derived.Test.YtfmjfgmbjdhogaaGreatDoorMb36
import Derived.Lib.AppendZerosOnto
set_option linter.unusedVariables false
set_option linter.unusedSimpArgs false
set_option maxRecDepth 20000
set_option maxHeartbeats 8000000
namespace Go.Proofs.YtfmjfgmbjdhogaaGreatDoor
open Go.RowKit
theorem samegz_yes (w:World)(a:Option Addr)(k:Nat)(a2:Option Addr)(k2:Nat)(g:GzP)(hr:Reads w a (nb g.extra))(hn:a=none→k=0)(hr2:Reads w a2 (nb g.extra))(hn2:a2=none→k2=0):
  Calls Tryz.prog 19 #[.agg (gzV a k g),.agg (gzV a2 k2 g)] w fun e w'=>e = .returned (.bool true)∧Kept NoB w w':=by
 obtain ⟨t,x,s,E,N,C,tm,xf,os⟩:=g
 unfold gzV
 dsimp only at *
 have hc1:∀ W,Kept NoB w W→(convert 22 9 (.slice a E.length k)).run Tryz.prog W = .ok (.string (strB E)) W:=fun W hk=>by
  rw [← nb_strG];exact conv_reads (hr.keptNo hk) (by rw [nb_len]) hn
 have hc2:∀ W,Kept NoB w W→(convert 22 9 (.slice a2 E.length k2)).run Tryz.prog W = .ok (.string (strB E)) W:=fun W hk=>by
  rw [← nb_strG];exact conv_reads (hr2.keptNo hk) (by rw [nb_len]) hn2
 have hd1:=hc1 ((w.alloc (.cells #[.bool t,.bool x,.bool s,.slice a E.length k,.string (strB N),.string (strB C),.int .i64 tm,.int .i64 xf,.int .i64 os] 42)).alloc (.cells #[.bool t,.bool x,.bool s,.slice a2 E.length k2,.string (strB N),.string (strB C),.int .i64 tm,.int .i64 xf,.int .i64 os] 42)) (((Kept.refl _ _).alloc _).alloc _)
 have hd2:=hc2 ((w.alloc (.cells #[.bool t,.bool x,.bool s,.slice a E.length k,.string (strB N),.string (strB C),.int .i64 tm,.int .i64 xf,.int .i64 os] 42)).alloc (.cells #[.bool t,.bool x,.bool s,.slice a2 E.length k2,.string (strB N),.string (strB C),.int .i64 tm,.int .i64 xf,.int .i64 os] 42)) (((Kept.refl _ _).alloc _).alloc _)
 clear hc1 hc2 hr hn hr2 hn2
 generalize strB E=S0 at *
 generalize strB N=S1 at *
 generalize strB C=S2 at *
 generalize E.length=el at *
 go_enter Tryz.func19,Tryz.ntmps19
 go_wp2
 go_ret
 exact ⟨rfl,((Kept.refl _ _).alloc _).alloc _⟩
def text11 (L:List UInt8):List UInt8:=L.take (min (zeroAt (nb L)) 30)
theorem zeroAt_not:∀ (l:List Int) (i:Nat),i < zeroAt l→i < l.length∧l.getD i 0≠0
 | [],i,h=>absurd h (Nat.not_lt_zero _)
 | x :: r,i,h=>by
  rw [zeroAt] at h
  by_cases hx:x=0
  ·rw [if_pos hx] at h;omega
  ·rw [if_neg hx] at h
   cases i with
   | zero=>exact ⟨by simp,by simpa using hx⟩
   | succ i=>
    have:=zeroAt_not r i (by omega)
    exact ⟨by simp;omega,by simpa using this.2⟩
theorem zeroAt_eq:∀ (l:List Int) (i:Nat),i < l.length→(∀ j,j < i→l.getD j 0≠0)→l.getD i 0=0→zeroAt l=i
 | [],i,h,_,_=>absurd h (Nat.not_lt_zero _)
 | x :: r,0,_,_,h0=>by
  have:x=0:=by simpa using h0
  rw [zeroAt,if_pos this]
 | x :: r,i+1,h,hj,h0=>by
  have h1:x≠0:=by simpa using hj 0 (by omega)
  rw [zeroAt,if_neg h1,zeroAt_eq r i (by simpa using h) (fun j hji=>by simpa using hj (j+1) (by omega)) (by simpa using h0)]
theorem zeroAt_full:∀ (l:List Int),(∀ j,j < l.length→l.getD j 0≠0)→zeroAt l=l.length
 | [],_=>rfl
 | x :: r,h=>by
  have h1:x≠0:=by simpa using h 0 (by simp)
  rw [zeroAt,if_neg h1,zeroAt_full r (fun j hj=>by simpa using h (j+1) (by simpa using hj)),List.length_cons]
theorem zeroAt_ge:∀ (l:List Int) (i:Nat),i≤l.length→(∀ j,j < i→l.getD j 0≠0)→i≤zeroAt l
 | l,0,_,_=>Nat.zero_le _
 | [],i+1,h,_=>by simp at h
 | x :: r,i+1,h,hj=>by
  have h1:x≠0:=by simpa using hj 0 (by omega)
  rw [zeroAt,if_neg h1]
  have:=zeroAt_ge r i (by simpa using h) (fun j hji=>by simpa using hj (j+1) (by omega))
  omega
theorem text11_ok (L:List UInt8):(text11 L).length≤30∧0 ∉ text11 L:=by
 refine ⟨by unfold text11;rw [List.length_take];omega,fun h=>?_⟩
 unfold text11 at h
 obtain ⟨i,hi,he⟩:=List.getElem_of_mem h
 rw [List.length_take] at hi
 have h1:=zeroAt_not (nb L) i (by omega)
 rw [nb_len] at h1
 rw [List.getElem_take] at he
 refine h1.2 ?_
 unfold nb
 simp [List.getD,h1.1,he]
theorem text11_any (w:World)(L:List UInt8):Calls Tryz.prog 16 #[.string (strB L)] w fun e w'=>e = .returned (.string (strB (text11 L)))∧w'=w:=by
 have hsz:=strB_size L
 obtain ⟨S,hS⟩:∃ S,S=strB L:=⟨_,rfl⟩
 rw [← hS] at hsz ⊢
 obtain ⟨n,hn⟩:∃ n,n=L.length:=⟨_,rfl⟩
 rw [← hn] at hsz
 have HSe:=Hd hS;have HN:=Hd hn
 clear hS hn
 have hnl:(nb L).length=n:=by rw [nb_len,HN.out]
 have HNl:=Hd hnl
 clear hnl
 go_enter Tryz.func16,Tryz.ntmps16
 go_wp2_with fail
 go_loopw [3] (fun v3 wr=>∃ i:Nat,v3 = .int .i64 (i:Int)∧i≤n∧i≤30∧wr=w∧Hid (∀ j,j < i→(nb L).getD j 0≠0)) (fun v3 _=>31 - (intOf v3).toNat)
 case atStart=>exact ⟨0,rfl,Nat.zero_le _,by omega,rfl,Hd (fun j h=>by omega)⟩
 case round=>
  obtain ⟨i,rfl,hi,hi30,rfl,HJ⟩:=hrel
  by_cases hin:i < n
  ·have hil:i < L.length:=by rw [← HN.out];exact hin
   have hsat:((S[i]'(by rw [hsz];exact hin)).toNat:Int)=(nb L).getD i 0:=by
    have hs:=HSe.out
    subst hs
    show (((⟨L.toArray⟩:ByteArray).data[i]'(by simpa using hil)).toNat:Int)=_
    simp [nb,List.getD,hil]
   have hix:∀ W,(Instr.index 9 (.string S) (.int .i64 (i:Int))).run Tryz.prog W = .ok (.int .u8 ((nb L).getD i 0)) W:=fun W=>by
    rw [run_index_string W _ _ _ _ Tryz.underlying9,dif_pos ⟨by omega,by rw [hsz];omega⟩,← hsat]
    rfl
   clear hsat
   have hex:S.extract 0 i=strB (L.take i):=by
    rw [HSe.out,strB_extract];simp
   obtain ⟨x,hx⟩:∃ x,x=(nb L).getD i 0:=⟨_,rfl⟩
   rw [← hx] at hix
   have HX:=Hd hx;have HEx:=Hd hex
   clear hx hex
   by_cases h0:x=0
   ·subst h0
    go_wp2
    go_ret
    refine ⟨?_,rfl⟩
    have hz:zeroAt (nb L)=i:=zeroAt_eq (nb L) i (by rw [HNl.out];exact hin) HJ.out HX.out.symm
    have ht:text11 L=L.take i:=by unfold text11;rw [hz,Nat.min_eq_left hi30]
    rw [ht,← HEx.out]
    rfl
   ·have hx0:(x == 0)=false:=by simpa using h0
    by_cases h30:i=30
    ·subst h30
     have hz:30≤zeroAt (nb L):=zeroAt_ge (nb L) 30 (by rw [HNl.out];omega) HJ.out
     have HT:Hid (text11 L=L.take 30):=Hd (by unfold text11;rw [Nat.min_eq_right hz])
     have hix:∀ W,(Instr.index 9 (.string S) (.int .i64 30)).run Tryz.prog W = .ok (.int .u8 x) W:=hix
     clear hz h0
     go_wp2
     go_ret
     refine ⟨?_,rfl⟩
     rw [HT.out,← HEx.out]
     rfl
    ·have h31:((i:Int) == 30)=false:=by rw [beq_eq_false_iff_ne];omega
     have hJ2:∀ j,j < i+1→(nb L).getD j 0≠0:=fun j hj=>by
      by_cases h:j=i
      ·subst h;rw [← HX.out];exact h0
      ·exact HJ.out j (by omega)
     have HJ2:=Hd hJ2
     clear h0 hJ2
     go_wp2
     go_roundw
     case rel=>exact ⟨i+1,by go_num,by omega,by omega,by trivial,HJ2⟩
     case measure=>simp [intOf];omega
  ·have hin2:i=n:=by omega
   subst hin2
   go_wp2
   go_ret
   refine ⟨?_,rfl⟩
   have hz:zeroAt (nb L)=i:=by rw [zeroAt_full (nb L) (fun j hj=>HJ.out j (by rw [← HNl.out];exact hj)),HNl.out]
   have ht:text11 L=L:=by unfold text11;rw [hz,Nat.min_eq_left hi30,HN.out,List.take_length]
   rw [ht,← HSe.out]
   rfl
theorem BySt.some {w0 w:World}{a:Option Addr}{l c:Nat}{L:List UInt8}(h:BySt w0 w a l c L)(hne:L≠[]):∃ g,a=some ⟨g,0,none⟩:=by
 have hl:=h.len
 have:0 < L.length:=by cases L with | nil=>exact absurd rfl hne | cons _ _=>simp
 rcases h.own.2 with ⟨_,hz⟩ | ⟨g,cc,cur,hv,_⟩
 ·omega
 ·simp at hv;exact ⟨g,hv.1⟩
theorem by_empty {w0 w:World}(hk:Kept NoB w0 w):BySt w0 (w.alloc (.cells #[] 5)) (some ⟨w.heap.size,0,none⟩) 0 0 []:=
 ⟨rfl,World.ownsRow_lit w #[] 0 (Nat.zero_le _) (Nat.zero_le _) rfl,hk.alloc _,fun k e=>by have:=hk.size;simp [Value.ownBlock] at e;omega⟩
def tameG (t x s:Bool)(E:List Int)(N C:List UInt8)(tm xf os:Int):GzP:=⟨t,x,s,if x then un (E.take 40) else [],text11 N,text11 C,(tm % 4294967296).toNat,(xf % 256).toNat,(os % 256).toNat⟩
theorem tameG_ok (t x s:Bool)(E:List Int)(N C:List UInt8)(tm xf os:Int):(tameG t x s E N C tm xf os).Ok:=by
 have h1:=text11_ok N
 have h2:=text11_ok C
 refine ⟨?_,?_,?_,?_,?_,?_,?_,h1.2,h2.2⟩
 ·show (tm % 4294967296).toNat < 4294967296;omega
 ·show (xf % 256).toNat < 256;omega
 ·show (os % 256).toNat < 256;omega
 ·show (if x then un (E.take 40) else []).length≤65535
  split
  ·have e:(un (E.take 40)).length=(E.take 40).length:=by unfold un;simp
   rw [e,List.length_take];omega
  ·exact Nat.zero_le _
 ·intro h
  show (if x then un (E.take 40) else [])=[]
  have hx:x=false:=h
  rw [hx];rfl
 ·show (text11 N).length≤1000;omega
 ·show (text11 C).length≤1000;omega
theorem gz_tame_end {t:Array Value}{R:Nat}{c0 c1 c2 c3 c4 c5 c6 c7 c8:Value}{wz:World}{Q:Ending→World→Prop}(h2:t.getD 2 undef = .pointer (some ⟨R,0,none⟩))
  (hz:wz.heap[R]?=some (.cells #[c0,c1,c2,c3,c4,c5,c6,c7,c8] 42 (0,0))) (hq:Q (.returned (.agg #[c0,c1,c2,c3,c4,c5,c6,c7,c8])) wz):bodyPost Tryz.prog Tryz.f22 Q .ret ⟨t,[]⟩ wz:=by
 have k0:wz.cell? ⟨R,0,none⟩=some c0:=obj_cell hz 0
 have k1:wz.cell? ⟨R,1,none⟩=some c1:=obj_cell hz 1
 have k2:wz.cell? ⟨R,2,none⟩=some c2:=obj_cell hz 2
 have k3:wz.cell? ⟨R,3,none⟩=some c3:=obj_cell hz 3
 have k4:wz.cell? ⟨R,4,none⟩=some c4:=obj_cell hz 4
 have k5:wz.cell? ⟨R,5,none⟩=some c5:=obj_cell hz 5
 have k6:wz.cell? ⟨R,6,none⟩=some c6:=obj_cell hz 6
 have k7:wz.cell? ⟨R,7,none⟩=some c7:=obj_cell hz 7
 have k8:wz.cell? ⟨R,8,none⟩=some c8:=obj_cell hz 8
 have h2':t[2]?.getD undef = .pointer (some ⟨R,0,none⟩):=by simpa using h2
 refine bodyPost_ret (v := .agg #[c0,c1,c2,c3,c4,c5,c6,c7,c8]) ?_ rfl hq
 simp [results,Tryz.results22,go_sem,h2',k0,k1,k2,k3,k4,k5,k6,k7,k8]
theorem tame11_any (w:World)(t x s:Bool)(a:Option Addr)(n k:Nat)(E:List Int)(N C:List UInt8)(tm xf os:Int)(hR:CurRow w a k E)(hn:n=E.length):
  Calls Tryz.prog 22 #[.agg #[.bool t,.bool x,.bool s,.slice a n k,.string (strB N),.string (strB C),.int .i64 tm,.int .i64 xf,.int .i64 os]] w fun e w'=>∃ (a2:Option Addr) (k2:Nat),e = .returned (.agg (gzV a2 k2 (tameG t x s E N C tm xf os)))∧Kept NoB w w'∧(∀ V:World,Reads V a E→Reads V a2 (nb (tameG t x s E N C tm xf os).extra))∧(tameG t x s E N C tm xf os).extra.length≤k2∧k2≤maxLen∧(a2=none→k2=0):=by
 obtain ⟨X,hX⟩:∃ X,X=w.heap.size:=⟨_,rfl⟩
 obtain ⟨R,hRr⟩:∃ R,R=X+1:=⟨_,rfl⟩
 have hcap:n≤k:=by rw [hn];exact hR.cap
 obtain ⟨K,hK⟩:∃ K,K=min n 40:=⟨_,rfl⟩
 have hmn:min (n:Int) 40=(K:Int):=by omega
 obtain ⟨o1,hs1,hp1⟩:=slg_h a n k K E hn (by omega) hcap hR.nil
 have HR:=Hd hR;have HN:=Hd hn;have HX:=Hd hX;have HRr:=Hd hRr;have HP1:=Hd hp1;have HKm:=Hd hK
 clear hR hn hX hRr hp1 hK
 go_enter Tryz.func22,Tryz.ntmps22
 go_upto_region 1 with fail
 have hxA:(w.alloc (.cells #[.bool t,.bool x,.bool s,.slice a n k,.string (strB N),.string (strB C),.int .i64 tm,.int .i64 xf,.int .i64 os] 42)).heap[w.heap.size]?=some (.cells #[.bool t,.bool x,.bool s,.slice a n k,.string (strB N),.string (strB C),.int .i64 tm,.int .i64 xf,.int .i64 os] 42 (0,0)):=heap_alloc_new _ _
 have hsA:(w.alloc (.cells #[.bool t,.bool x,.bool s,.slice a n k,.string (strB N),.string (strB C),.int .i64 tm,.int .i64 xf,.int .i64 os] 42)).heap.size=R:=by rw [HRr.out,HX.out];simp
 have hkA:Kept NoB w (w.alloc (.cells #[.bool t,.bool x,.bool s,.slice a n k,.string (strB N),.string (strB C),.int .i64 tm,.int .i64 xf,.int .i64 os] 42)):=(Kept.refl _ _).alloc _
 rw [← HX.out] at hxA ⊢
 generalize (w.alloc (.cells #[.bool t,.bool x,.bool s,.slice a n k,.string (strB N),.string (strB C),.int .i64 tm,.int .i64 xf,.int .i64 os] 42))=wA at hxA hsA hkA ⊢
 have hrB:(wA.alloc (.cells #[.bool false,.bool false,.bool false,.slice none 0 0,.string ⟨#[]⟩,.string ⟨#[]⟩,.int .i64 0,.int .i64 0,.int .i64 0] 42)).heap[wA.heap.size]?=some (.cells #[.bool false,.bool false,.bool false,.slice none 0 0,.string ⟨#[]⟩,.string ⟨#[]⟩,.int .i64 0,.int .i64 0,.int .i64 0] 42 (0,0)):=heap_alloc_new _ _
 rw [hsA] at hrB
 have hxB:=((Kept.refl NoB wA).alloc (.cells #[.bool false,.bool false,.bool false,.slice none 0 0,.string ⟨#[]⟩,.string ⟨#[]⟩,.int .i64 0,.int .i64 0,.int .i64 0] 42)).obj hxA (fun h=>h)
 have hkB:Kept NoB w (wA.alloc (.cells #[.bool false,.bool false,.bool false,.slice none 0 0,.string ⟨#[]⟩,.string ⟨#[]⟩,.int .i64 0,.int .i64 0,.int .i64 0] 42)):=hkA.alloc _
 generalize (wA.alloc (.cells #[.bool false,.bool false,.bool false,.slice none 0 0,.string ⟨#[]⟩,.string ⟨#[]⟩,.int .i64 0,.int .i64 0,.int .i64 0] 42))=wB at hrB hxB hkB ⊢
 have HXB:=Hd hxB;have HRB:=Hd hrB;have HKB:=Hd hkB
 clear hxA hsA hkA hrB hxB hkB
 have c3:wB.cell? ⟨X,3,none⟩=some (.slice a n k):=obj_cell HXB.out 3
 have f3:=obj_free HXB.out 3
 go_upto_region 2 with fail
 rw [← HRr.out]
 have hxR:R≠X:=by have:=HRr.out;omega
 have HxR:=Hd hxR
 have HX1:=Hd (obj_set HXB.out 3 (.slice o1 K k))
 have HK1:=Hd (Kept.setCell (S:=OneB X) (p:=⟨X,3,none⟩) (Kept.refl _ wB) (.inl rfl) (.slice o1 K k))
 generalize wB.setCell ⟨X,3,none⟩ (.slice o1 K k)=w1 at HX1 HK1 ⊢
 obtain ⟨o2,m2,k2,h2t,h2f⟩:∃ (o2:Option Addr) (m2 k2:Nat),(x=true→o2=o1∧m2=K∧k2=k)∧(x=false→o2=none∧m2=0∧k2=0):=by
  cases x with
  | true=>exact ⟨o1,K,k,fun _=>⟨rfl,rfl,rfl⟩,fun h=>by cases h⟩
  | false=>exact ⟨none,0,0,(fun h=>by cases h),fun _=>⟨rfl,rfl,rfl⟩⟩
 obtain ⟨EX,hEX⟩:∃ EX:List UInt8,EX=(if x then un (E.take 40) else []):=⟨_,rfl⟩
 have hE2:(∀ V:World,Reads V a E→Reads V o2 (nb EX))∧m2=EX.length∧m2≤k2∧k2≤maxLen∧(o2=none→k2=0):=by
  cases hx:x with
  | true=>
   obtain ⟨rfl,rfl,rfl⟩:=h2t hx
   have hl:(E.take 40).length=m2:=by rw [List.length_take,← HN.out,HKm.out];omega
   have e:EX=un (E.take 40):=by rw [hEX,hx];rfl
   have hall:AllB (E.take 40):=fun y hy=>HR.out.all y (List.mem_of_mem_take hy)
   have et:E.take m2=E.take 40:=by
    rw [HKm.out,HN.out]
    by_cases h:E.length≤40
    ·rw [Nat.min_eq_left h,List.take_of_length_le (Nat.le_refl _),List.take_of_length_le h]
    ·rw [Nat.min_eq_right (by omega)]
   have el:EX.length=m2:=by rw [e,← hl,← nb_len,nb_un hall]
   refine ⟨fun V hV=>by have hr:=HP1.out.reads V hV;rw [List.drop_zero,Nat.sub_zero,et] at hr;rw [e,nb_un hall];exact hr,el.symm,?_,HR.out.most,fun h=>HR.out.nil (HP1.out.nil.1 h)⟩
   have:=HKm.out;omega
  | false=>
   obtain ⟨rfl,rfl,rfl⟩:=h2f hx
   have e:EX=[]:=by rw [hEX,hx];rfl
   rw [e]
   exact ⟨fun _ _=>⟨fun _=>rfl,fun a e=>by cases e⟩,rfl,Nat.le_refl _,Nat.zero_le _,fun _=>rfl⟩
 have HE2:=Hd hE2;have HEX:=Hd hEX;have H2T:=Hd h2t;have H2F:=Hd h2f
 clear hE2 hEX h2t h2f hs1 hmn c3 f3 hxR
 have d1:w1.cell? ⟨X,1,none⟩=some (.bool x):=obj_cell HX1.out 1
 go_upto_if 13 with fail
 go_cut [] from 14 to 14 (fun wy=>Hid (wy.heap[X]?=some (.cells #[.bool t,.bool x,.bool s,.slice o2 m2 k2,.string (strB N),.string (strB C),.int .i64 tm,.int .i64 xf,.int .i64 os] 42 (0,0)))∧Hid (Kept (OneB X) wB wy))
 case first=>
  cases x with
  | true=>
   obtain ⟨rfl,rfl,rfl⟩:=H2T.out rfl
   go_wp2
   go_meet
   exact ⟨HX1,HK1⟩
  | false=>
   obtain ⟨rfl,rfl,rfl⟩:=H2F.out rfl
   have d3:w1.cell? ⟨X,3,none⟩=some (.slice o1 K k):=obj_cell HX1.out 3
   have f3:=obj_free HX1.out 3
   go_wp2
   go_meet
   exact ⟨Hd (obj_set HX1.out 3 _),Hd (Kept.setCell (S:=OneB X) (p:=⟨X,3,none⟩) HK1.out (.inl rfl) _)⟩
 case rest=>
 obtain ⟨HC,HKc⟩:=hcut
 obtain ⟨w2,rfl⟩:∃ z,z=wc:=⟨_,rfl⟩
 clear d1 HX1 HK1
 have c4:w2.cell? ⟨X,4,none⟩=some (.string (strB N)):=obj_cell HC.out 4
 have c5:w2.cell? ⟨X,5,none⟩=some (.string (strB C)):=obj_cell HC.out 5
 have f2:∀ i,w2.frozen? ⟨X,i,none⟩=false:=fun i=>obj_free HC.out i
 have HT1:=Hd (fun W=>text11_any W N);have HT2:=Hd (fun W=>text11_any W C)
 go_upto_region 4 with fail
 go_cut [] from 15 to 22 (fun wy=>Hid (wy.heap[X]?=some (.cells #[.bool t,.bool x,.bool s,.slice o2 m2 k2,.string (strB (text11 N)),.string (strB (text11 C)),.int .i64 tm,.int .i64 xf,.int .i64 os] 42 (0,0)))∧Hid (Kept (OneB X) wB wy))
 case first=>
  go_region_with (first
   | (go_at_call 16;((with_reducible refine (HT1.out _).mono ?_);rintro e wn ⟨rfl,rfl⟩))
   | (go_at_call 16;((with_reducible refine (HT2.out _).mono ?_);rintro e wn ⟨rfl,rfl⟩)))
  all_goals (go_wp2;go_meet;exact ⟨Hd (obj_set (obj_set (w:=w2.drew) HC.out 4 _) 5 _),Hd (Kept.setCell (S:=OneB X) (p:=⟨X,5,none⟩) (Kept.setCell (S:=OneB X) (p:=⟨X,4,none⟩) (HKc.out.drew) (.inl rfl) _) (.inl rfl) _)⟩)
 case rest=>
 clear c4 c5 f2 HT1 HT2 HC HKc
 obtain ⟨HC,HKc⟩:=hcut
 obtain ⟨w3,rfl⟩:∃ z,z=wc:=⟨_,rfl⟩
 obtain ⟨m6,hm6⟩:∃ m:Nat,m=(tm % 4294967296).toNat:=⟨_,rfl⟩
 obtain ⟨m7,hm7⟩:∃ m:Nat,m=(xf % 256).toNat:=⟨_,rfl⟩
 obtain ⟨m8,hm8⟩:∃ m:Nat,m=(os % 256).toNat:=⟨_,rfl⟩
 have e6:bits .and .i64 tm 4294967295=(m6:Int):=(i64_mask tm 32 (by decide)).trans (by show tm % 4294967296=_;omega)
 have e7:bits .and .i64 xf 255=(m7:Int):=(i64_mask xf 8 (by decide)).trans (by show xf % 256=_;omega)
 have e8:bits .and .i64 os 255=(m8:Int):=(i64_mask os 8 (by decide)).trans (by show os % 256=_;omega)
 have c6:w3.cell? ⟨X,6,none⟩=some (.int .i64 tm):=obj_cell HC.out 6
 have c7:w3.cell? ⟨X,7,none⟩=some (.int .i64 xf):=obj_cell HC.out 7
 have c8:w3.cell? ⟨X,8,none⟩=some (.int .i64 os):=obj_cell HC.out 8
 have f3:∀ i,w3.frozen? ⟨X,i,none⟩=false:=fun i=>obj_free HC.out i
 have HM:=Hd (And.intro hm6 (And.intro hm7 hm8))
 clear hm6 hm7 hm8
 go_upto_region 5 with fail
 go_cut [] from 23 to 34 (fun wy=>Hid (wy.heap[X]?=some (.cells #[.bool t,.bool x,.bool s,.slice o2 m2 k2,.string (strB (text11 N)),.string (strB (text11 C)),.int .i64 (m6:Int),.int .i64 (m7:Int),.int .i64 (m8:Int)] 42 (0,0)))∧Hid (Kept (OneB X) wB wy))
 case first=>
  have HE:=Hd (obj_set (obj_set (obj_set HC.out 6 (.int .i64 (m6:Int))) 7 (.int .i64 (m7:Int))) 8 (.int .i64 (m8:Int)))
  have HKe:=Hd (Kept.setCell (S:=OneB X) (p:=⟨X,8,none⟩) (Kept.setCell (S:=OneB X) (p:=⟨X,7,none⟩) (Kept.setCell (S:=OneB X) (p:=⟨X,6,none⟩) HKc.out (.inl rfl) (.int .i64 (m6:Int))) (.inl rfl) (.int .i64 (m7:Int))) (.inl rfl) (.int .i64 (m8:Int)))
  go_wp2
  go_meet
  exact ⟨HE,HKe⟩
 case rest=>
 clear HC HKc c6 c7 c8 f3 e6 e7 e8
 obtain ⟨HC,HKc⟩:=hcut
 obtain ⟨w4,rfl⟩:∃ z,z=wc:=⟨_,rfl⟩
 obtain ⟨arr,harr⟩:∃ arr:Array Value,arr=#[.bool t,.bool x,.bool s,.slice o2 m2 k2,.string (strB (text11 N)),.string (strB (text11 C)),.int .i64 (m6:Int),.int .i64 (m7:Int),.int .i64 (m8:Int)]:=⟨_,rfl⟩
 rw [← harr] at HC
 have HArr:=Hd harr
 have HSz:Hid ((Tryz.prog.info? 42).map (·.size)=some arr.size):=Hd (by rw [harr];exact infoGz)
 have HOne:Hid (arr.all (·.oneCell')=true):=Hd (by rw [harr,← Array.all_toList];rfl)
 have HSz2:Hid (gz0.size=arr.size):=Hd (by rw [harr];rfl)
 have HRc:=Hd (HKc.out.obj HRB.out (fun e=>HxR.out e))
 have HZ:Hid ((w4.setRow R arr).heap[R]?=some (.cells arr 42 (0,0))):=Hd (setRow_heap w4 R _ arr _ _ HRc.out)
 have hK4:Kept NoB w w4:=by
  have h1:=HKB.out
  have h2:=HKc.out
  exact ⟨h2.os.trans h1.os,h2.tape.trans h1.tape,h2.output.trans h1.output,Nat.le_trans h1.size h2.size,fun i hi hs=>(h2.block i (Nat.lt_of_lt_of_le hi h1.size) (fun e=>by have e':i=X:=e;have:=HX.out;omega)).trans (h1.block i hi hs)⟩
 have HKz:Hid (Kept NoB w (w4.setRow R arr)):=Hd ⟨hK4.os,hK4.tape,hK4.output,by simpa [World.setRow] using hK4.size,fun i hi hs=>(setRow_other _ _ i _ (fun e=>by have h1:=HX.out;have h2:=HRr.out;omega)).trans (hK4.block i hi hs)⟩
 clear harr hK4
 go_wp2_with (first | (refine wpList_load_row rfl 42 (.tmp 1) rfl X rfl 42 arr (0,0) _ HC.out Tryz.underlying42 rfl HSz.out ?_) | (refine wpList_store_row rfl 42 (.tmp 2) (.tmp 35) rfl R arr rfl rfl _ _ HRc.out HSz.out HSz2.out HOne.out ?_))
 generalize w4.setRow R arr=wz at HZ HKz ⊢
 go_wp2
 rw [HArr.out] at HZ
 refine gz_tame_end (R:=R) ?_ HZ.out ?_
 ·rfl
 ·refine ⟨o2,k2,?_,HKz.out,?_,?_,HE2.out.2.2.2.1,HE2.out.2.2.2.2⟩
  ·have hx:(tameG t x s E N C tm xf os)=⟨t,x,s,EX,text11 N,text11 C,m6,m7,m8⟩:=by
    unfold tameG
    rw [← HEX.out,← HM.out.1,← HM.out.2.1,← HM.out.2.2]
   rw [hx]
   unfold gzV
   dsimp only
   rw [← HE2.out.2.1]
  ·show ∀ V:World,Reads V a E→Reads V o2 (nb (if x then un (E.take 40) else []))
   rw [← HEX.out];exact HE2.out.1
  ·show (if x then un (E.take 40) else []).length≤k2
   rw [← HEX.out,← HE2.out.2.1];exact HE2.out.2.2.1
theorem turned_any (w:World)(ad:Addr)(n c:Nat)(L:List UInt8)(bit:Int)(hb : -9223372036854775808≤bit∧bit≤9223372036854775807)(hn:n=L.length)(hr:Reads w (some ad) (nb L))(h0:0 < n)(hl:n≤1000):
  Calls Tryz.prog 23 #[.slice (some ad) n c,.int .i64 bit] w fun e w'=>∃ (a2:Option Addr) (c2 q k:Nat),e = .returned (.slice a2 n c2)∧q < n∧k < 8∧BySt w w' a2 n c2 (L.set q ((L.getD q 0) ^^^ UInt8.ofNat (2 ^ k))):=by
 have HR:=Hd hr;have HN:=Hd hn
 have HBE:=Hd (by_empty (Kept.refl NoB w))
 have hnI:(0:Int) < (n:Int):=by omega
 clear hr hn
 go_enter Tryz.func23,Tryz.ntmps23
 go_upto_region 2 with (at_builtin;refine wpList_by_rowK rfl (.tmp 6) (.tmp 7) rfl HBE.out rfl ad c n L HN.out rfl (HR.out.keptNo ((Kept.refl NoB w).alloc _)) (by omega) ?_;intro a8 c8 w4 hb4 hk4;rw [Nat.zero_add,List.nil_append] at hb4;have HB4:=Hd hb4;clear hb4 hk4)
 go_upto_region 3 with fail
 obtain ⟨g,hg⟩:=HB4.out.some (by intro e;have h:=HN.out;rw [e] at h;simp at h;omega)
 subst hg
 obtain ⟨u,hu⟩:∃ u:Nat,u=((bit / 8) % 65536).toNat:=⟨_,rfl⟩
 have e1:bits .and .i64 (bit / 8) 65535=(u:Int):=(i64_mask (bit / 8) 16 (by decide)).trans (by show bit / 8 % 65536=_;omega)
 obtain ⟨q,hq⟩:∃ q:Nat,q=u % n:=⟨_,rfl⟩
 have hqn:q < n:=by rw [hq];exact Nat.mod_lt _ h0
 have e2:(u:Int).tmod (n:Int)=(q:Int):=by rw [hq];exact (Int.ofNat_tmod u n).symm
 obtain ⟨k,hk⟩:∃ k:Nat,k=(bit % 8).toNat:=⟨_,rfl⟩
 have hk8:k < 8:=by omega
 have e3:bits .and .i64 bit 7=(k:Int):=(i64_mask bit 3 (by decide)).trans (by show bit % 8=_;omega)
 have hn0:¬ n=0:=by omega
 obtain ⟨z,hz⟩:∃ z:UInt8,z=L.getD q 0:=⟨_,rfl⟩
 have hcz:w4.cell? ⟨g,q,none⟩=some (.int .u8 (z.toNat:Int)):=by
  have h:=HB4.out.reads.2 _ rfl q (by rw [nb_len,← HN.out];exact hqn)
  rw [hz]
  have e:(nb L).getD q 0=((L.getD q 0).toNat:Int):=by
   unfold nb
   rw [List.getD_eq_getElem?_getD,List.getD_eq_getElem?_getD,List.getElem?_map]
   cases L[q]? <;> rfl
  rw [e,Addr.add_lit,Nat.zero_add] at h
  exact h
 have hfz:w4.frozen? ⟨g,q,none⟩=false:=HB4.out.own.frozenAt _
 have HZ:=Hd hz
 clear hu hq hk hz
 go_region
 have h2:k=0∨k=1∨k=2∨k=3∨k=4∨k=5∨k=6∨k=7:=by omega
 have h256:2 ^ k < 256:=by rcases h2 with h | h | h | h | h | h | h | h <;> subst h <;> decide
 have e5:(2:Int) ^ k % 256=((2 ^ k:Nat):Int):=by rcases h2 with h | h | h | h | h | h | h | h <;> subst h <;> rfl
 have hx:bits .xor .u8 (z.toNat:Int) ((2:Int) ^ k % 256)=(((z ^^^ UInt8.ofNat (2 ^ k)).toNat:Nat):Int):=by
  rw [e5,u8_xor_nat z.toNat (2 ^ k) z.toNat_lt h256,UInt8.toNat_xor,UInt8.toNat_ofNat',Nat.mod_eq_of_lt h256]
 have hb5:BySt w (w4.setCell ⟨g,q,none⟩ (.int .u8 (bits .xor .u8 (z.toNat:Int) ((2:Int) ^ k % 256)))).drew (some ⟨g,0,none⟩) n c8 (L.set q (z ^^^ UInt8.ofNat (2 ^ k))):=by
  rw [hx]
  have ho:=(HB4.out.own.stored q (.int .u8 ((z ^^^ UInt8.ofNat (2 ^ k)).toNat:Nat))).1
  refine ⟨by rw [List.length_set];exact HB4.out.len,?_,?_,HB4.out.fresh⟩
  ·have e:bc (L.set q (z ^^^ UInt8.ofNat (2 ^ k)))=(bc L).set q (.int .u8 ((z ^^^ UInt8.ofNat (2 ^ k)).toNat:Nat)):=by
    unfold bc;rw [List.map_set]
   rw [e]
   exact ho
  ·exact Kept.drew (Kept.setCell (p:=⟨g,q,none⟩) HB4.out.kept (.inr (HB4.out.fresh g rfl)) _)
 generalize (w4.setCell ⟨g,q,none⟩ (.int .u8 (bits .xor .u8 (z.toNat:Int) ((2:Int) ^ k % 256)))).drew=w5 at hb5 ⊢
 have HB5:=Hd hb5
 have HX2:=Hd (And.intro hqn hk8)
 clear hb5 hx e5 h256 h2 e1 e2 e3 hcz hfz hqn hk8
 go_wp2
 go_ret
 exact ⟨some ⟨g,0,none⟩,c8,q,k,rfl,HX2.out.1,HX2.out.2,by rw [← HZ.out];exact HB5.out⟩

theorem xor_ne (z:UInt8)(k:Nat)(hk:k < 8):z ^^^ UInt8.ofNat (2 ^ k)≠z:=by
 intro h
 have h1:z ^^^ UInt8.ofNat (2 ^ k)=z ^^^ 0:=by rw [h,UInt8.xor_zero]
 have h2:UInt8.ofNat (2 ^ k)=0:=(UInt8.xor_right_inj z).1 h1
 have h3:k=0∨k=1∨k=2∨k=3∨k=4∨k=5∨k=6∨k=7:=by omega
 rcases h3 with h | h | h | h | h | h | h | h <;> subst h <;> exact absurd h2 (by decide)
theorem num_set (y:UInt8):∀ (A:List UInt8) (q:Nat),q < A.length→y≠A.getD q 0→num (nb (A.set q y))≠num (nb A)
 | [],q,h,_=>absurd h (Nat.not_lt_zero _)
 | x :: r,0,_,hy=>by
  have h1:y≠x:=hy
  have h2:y.toNat≠x.toNat:=fun e=>h1 (UInt8.toNat_inj.1 e)
  have l1:=y.toNat_lt
  have l2:=x.toNat_lt
  show num ((y.toNat:Int) :: nb r)≠num ((x.toNat:Int) :: nb r)
  unfold num
  omega
 | x :: r,q+1,h,hy=>by
  have ih:=num_set y r q (by simpa using h) (by simpa using hy)
  show num ((x.toNat:Int) :: nb (r.set q y))≠num ((x.toNat:Int) :: nb r)
  unfold num
  omega
theorem tail_turned (cr fl q k:Nat)(hc:cr < 4294967296)(hf:fl < 4294967296)(hq:q < 8)(hk:k < 8):
  tailS (nb ((leB 4 cr++leB 4 fl).set q ((leB 4 cr++leB 4 fl).getD q 0 ^^^ UInt8.ofNat (2 ^ k)))) cr fl=(0,7):=by
 obtain ⟨y,hy⟩:∃ y,y=(leB 4 cr++leB 4 fl).getD q 0 ^^^ UInt8.ofNat (2 ^ k):=⟨_,rfl⟩
 have hyn:y≠(leB 4 cr++leB 4 fl).getD q 0:=by rw [hy];exact xor_ne _ k hk
 rw [← hy]
 have l1:(leB 4 cr).length=4:=leB_len 4 cr
 have l2:(leB 4 fl).length=4:=leB_len 4 fl
 have n1:num (nb (leB 4 cr))=cr:=leB_num 4 _ hc
 have n2:num (nb (leB 4 fl))=fl:=leB_num 4 _ hf
 have hlen:(nb ((leB 4 cr++leB 4 fl).set q y)).length=8:=by rw [nb_len,List.length_set,List.length_append,l1,l2]
 generalize leB 4 cr=A at *
 generalize leB 4 fl=B at *
 unfold tailS
 by_cases h4:q < 4
 ·have e:(nb ((A++B).set q y)).take 4=nb (A.set q y):=by
   rw [List.set_append_left _ _ (by omega),nb_app]
   exact List.take_left' (by rw [nb_len,List.length_set,l1])
  have hne:num (nb (A.set q y))≠num (nb A):=num_set y A q (by omega) (by
   have h:=hyn
   rw [List.getD_eq_getElem?_getD,List.getElem?_append_left (by omega),← List.getD_eq_getElem?_getD] at h
   exact h)
  rw [e,if_pos ⟨by omega,by rw [← n1];exact hne⟩]
 ·have e:(nb ((A++B).set q y))=nb A++nb (B.set (q - 4) y):=by
   rw [List.set_append_right _ _ (by omega),nb_app,l1]
  have hne:num (nb (B.set (q - 4) y))≠num (nb B):=num_set y B (q - 4) (by omega) (by
   have h:=hyn
   rw [List.getD_eq_getElem?_getD,List.getElem?_append_right (by omega),← List.getD_eq_getElem?_getD,l1] at h
   exact h)
  have hlA:(nb A).length=4:=by rw [nb_len,l1]
  have hlB:(nb (B.set (q - 4) y)).length=4:=by rw [nb_len,List.length_set,l2]
  rw [e] at hlen ⊢
  rw [List.take_left' hlA,n1,if_neg (fun h=>h.2 rfl),if_neg (by omega),List.drop_left' hlA,List.take_of_length_le (by omega),if_pos (by rw [← n2];exact hne)]
theorem memB_tail (m:Mm):memB m.g m.L m.body=(headG m.g++m.body)++(leB 4 (crcL m.L)++leB 4 m.L.length):=by unfold memB;simp
theorem memB_take (m:Mm):(memB m.g m.L m.body).take ((memB m.g m.L m.body).length - 8)=headG m.g++m.body∧(memB m.g m.L m.body).drop ((memB m.g m.L m.body).length - 8)=leB 4 (crcL m.L)++leB 4 m.L.length:=by
 have hl:(memB m.g m.L m.body).length - 8=(headG m.g++m.body).length:=by
  rw [memB_tail];simp only [List.length_append,leB_len];omega
 rw [hl,memB_tail,List.take_left,List.drop_left]
 exact ⟨rfl,rfl⟩
theorem go_turned {M:Nat}(m:Mm)(hm:m.Ok)(hM:m.L.length≤M)(T:List UInt8)(hT:tailS (nb T) (crcL m.L) m.L.length=(0,7)):GoG (nb ((memB m.g m.L m.body).take ((memB m.g m.L m.body).length - 8)++T)) M 0 [] [] ((memB m.g m.L m.body).length - 8) 7 m.L [m.g]:=by
 have e:nb ((memB m.g m.L m.body).take ((memB m.g m.L m.body).length - 8)++T)=nb (headG m.g)++(nb m.body++nb T):=by
  rw [(memB_take m).1,nb_app,nb_app,List.append_assoc]
 have h:=GoG.bad (b:=nb (headG m.g)++(nb m.body++nb T)) (M:=M) (at_:=0) (out:=[]) (gs:=[]) (m:=m) (tl:=nb T) ⟨by rw [List.drop_zero],hm,by show 0+m.L.length≤M;omega⟩ hT (by decide)
 have e0:m.next 0+0=(memB m.g m.L m.body).length - 8:=by
  have:=memB_next m 0
  omega
 rw [e0] at h
 rw [e]
 simpa using h
theorem Rd.boolG {w:World}{t:TypeId}{cs:List Value}(ht:Tryz.prog.underlying t=some .bool)(h:Rd w t cs):∃ b,cs=[.bool b]:=by
 obtain ⟨H,enc,base,spare,held,fuel,x,hx⟩:=h
 obtain ⟨b,h1,_⟩:=DataW.trod_bool ht hx
 exact ⟨b,h1⟩
theorem gz_open {w:World}{v:Value}(h:Arg w 42 v):∃ (t x s:Bool) (a:Option Addr) (k:Nat) (E:List Int) (N C:List UInt8) (tm xf os:Int),v = .agg #[.bool t,.bool x,.bool s,.slice a E.length k,.string (strB N),.string (strB C),.int .i64 tm,.int .i64 xf,.int .i64 os]∧CurRow w a k E∧N.length≤maxLen∧C.length≤maxLen:=by
 obtain ⟨⟨base,hv⟩,hr⟩:=h
 obtain ⟨cs,rfl,hsz⟩:=Go.WideShapes.okWide_struct Tryz.underlying42 hv
 have hcells:(Value.agg cs).cells.toList=cs.toList:=rfl
 rw [hcells] at hr
 obtain ⟨hl,hf⟩:=hr.struct Tryz.underlying42
 have n12:Tryz.prog.cellsOf 42=9:=by kernel_rfl
 rw [n12] at hl
 obtain ⟨l,hcl⟩:∃ l,l=cs.toList:=⟨_,rfl⟩
 have hcs:cs=l.toArray:=by rw [hcl]
 rw [← hcl] at hl hf
 match l,hl with
 | [c0,c1,c2,c3,c4,c5,c6,c7,c8],_=>
  have i1:Tryz.prog.cellsOf 3=1:=by kernel_rfl
  have i2:Tryz.prog.cellsOf 9=1:=by kernel_rfl
  have i3:Tryz.prog.cellsOf 22=1:=by kernel_rfl
  have i4:Tryz.prog.cellsOf 4=1:=by kernel_rfl
  have r0:=hf 0 _ rfl
  have r1:=hf 1 _ rfl
  have r2:=hf 2 _ rfl
  have r3:=hf 3 _ rfl
  have r4:=hf 4 _ rfl
  have r5:=hf 5 _ rfl
  have r6:=hf 6 _ rfl
  have r7:=hf 7 _ rfl
  have r8:=hf 8 _ rfl
  simp [i1,i2,i3,i4] at r0 r1 r2 r3 r4 r5 r6 r7 r8
  obtain ⟨b0,e0⟩:=r0.boolG Tryz.underlying4
  obtain ⟨b1,e1⟩:=r1.boolG Tryz.underlying4
  obtain ⟨b2,e2⟩:=r2.boolG Tryz.underlying4
  obtain ⟨a3,k3,bs,e3,q1,q2,q3,q4,q5⟩:=r3.bytes Tryz.underlying22
  obtain ⟨s4,e4,z4⟩:=r4.string Tryz.underlying9
  obtain ⟨s5,e5,z5⟩:=r5.string Tryz.underlying9
  obtain ⟨n6,e6,w6⟩:=r6.int Tryz.underlying3
  obtain ⟨n7,e7,w7⟩:=r7.int Tryz.underlying3
  obtain ⟨n8,e8,w8⟩:=r8.int Tryz.underlying3
  simp at e0 e1 e2 e3 e4 e5 e6 e7 e8
  subst e0 e1 e2 e3 e4 e5 e6 e7 e8
  subst hcs
  refine ⟨b0,b1,b2,a3,k3,bs,s4.data.toList,s5.data.toList,n6,n7,n8,?_,⟨q3,q4,q1,q2,q5⟩,?_,?_⟩
  ·rw [strB_of,strB_of]
  ·rw [← strB_size,strB_of];exact z4
  ·rw [← strB_size,strB_of];exact z5
end Go.Proofs.YtfmjfgmbjdhogaaGreatDoor
