import Derived.Test.YtfmjfgmbjdhogaaGreatDoorMn36
import Derived.Lib.AppendZerosOnto
set_option linter.unusedVariables false
set_option linter.unusedSimpArgs false
set_option maxRecDepth 20000
set_option maxHeartbeats 8000000
namespace Go.Proofs.YtfmjfgmbjdhogaaGreatDoor
open Go.RowKit
theorem samegz_yes (w:World)(a:Option Addr)(k:Nat)(a2:Option Addr)(k2:Nat)(g:GzP)(hr:Reads w a (nb g.extra))(hn:a=none→k=0)(hr2:Reads w a2 (nb g.extra))(hn2:a2=none→k2=0):
  Calls Tryz.prog 19 #[.agg (gzV a k g),.agg (gzV a2 k2 g)] w fun e w'=>e = .returned (.bool true)∧Kept NoB w w':=by
 obtain ⟨t,x,s,E,N,C,tm,xf,os⟩:=g
 unfold gzV
 dsimp only at *
 have hc1:∀ W,Kept NoB w W→(convert 22 9 (.slice a E.length k)).run Tryz.prog W = .ok (.string (strB E)) W:=fun W hk=>by
  rw [← nb_strG];exact conv_reads (hr.keptNo hk) (by rw [nb_len]) hn
 have hc2:∀ W,Kept NoB w W→(convert 22 9 (.slice a2 E.length k2)).run Tryz.prog W = .ok (.string (strB E)) W:=fun W hk=>by
  rw [← nb_strG];exact conv_reads (hr2.keptNo hk) (by rw [nb_len]) hn2
 have hd1:=hc1 ((w.alloc (.cells #[.bool t,.bool x,.bool s,.slice a E.length k,.string (strB N),.string (strB C),.int .i64 tm,.int .i64 xf,.int .i64 os] 42)).alloc (.cells #[.bool t,.bool x,.bool s,.slice a2 E.length k2,.string (strB N),.string (strB C),.int .i64 tm,.int .i64 xf,.int .i64 os] 42)) (((Kept.refl _ _).alloc _).alloc _)
 have hd2:=hc2 ((w.alloc (.cells #[.bool t,.bool x,.bool s,.slice a E.length k,.string (strB N),.string (strB C),.int .i64 tm,.int .i64 xf,.int .i64 os] 42)).alloc (.cells #[.bool t,.bool x,.bool s,.slice a2 E.length k2,.string (strB N),.string (strB C),.int .i64 tm,.int .i64 xf,.int .i64 os] 42)) (((Kept.refl _ _).alloc _).alloc _)
 clear hc1 hc2 hr hn hr2 hn2
 generalize strB E=S0 at *
 generalize strB N=S1 at *
 generalize strB C=S2 at *
 generalize E.length=el at *
 go_enter Tryz.func19,Tryz.ntmps19
 go_wp2
 go_ret
 exact ⟨rfl,((Kept.refl _ _).alloc _).alloc _⟩
def text11 (L:List UInt8):List UInt8:=L.take (min (zeroAt (nb L)) 30)
theorem zeroAt_not:∀ (l:List Int) (i:Nat),i < zeroAt l→i < l.length∧l.getD i 0≠0
 | [],i,h=>absurd h (Nat.not_lt_zero _)
 | x :: r,i,h=>by
  rw [zeroAt] at h
  by_cases hx:x=0
  ·rw [if_pos hx] at h;omega
  ·rw [if_neg hx] at h
   cases i with
   | zero=>exact ⟨by simp,by simpa using hx⟩
   | succ i=>
    have:=zeroAt_not r i (by omega)
    exact ⟨by simp;omega,by simpa using this.2⟩
theorem zeroAt_eq:∀ (l:List Int) (i:Nat),i < l.length→(∀ j,j < i→l.getD j 0≠0)→l.getD i 0=0→zeroAt l=i
 | [],i,h,_,_=>absurd h (Nat.not_lt_zero _)
 | x :: r,0,_,_,h0=>by
  have:x=0:=by simpa using h0
  rw [zeroAt,if_pos this]
 | x :: r,i+1,h,hj,h0=>by
  have h1:x≠0:=by simpa using hj 0 (by omega)
  rw [zeroAt,if_neg h1,zeroAt_eq r i (by simpa using h) (fun j hji=>by simpa using hj (j+1) (by omega)) (by simpa using h0)]
theorem zeroAt_full:∀ (l:List Int),(∀ j,j < l.length→l.getD j 0≠0)→zeroAt l=l.length
 | [],_=>rfl
 | x :: r,h=>by
  have h1:x≠0:=by simpa using h 0 (by simp)
  rw [zeroAt,if_neg h1,zeroAt_full r (fun j hj=>by simpa using h (j+1) (by simpa using hj)),List.length_cons]
theorem zeroAt_ge:∀ (l:List Int) (i:Nat),i≤l.length→(∀ j,j < i→l.getD j 0≠0)→i≤zeroAt l
 | l,0,_,_=>Nat.zero_le _
 | [],i+1,h,_=>by simp at h
 | x :: r,i+1,h,hj=>by
  have h1:x≠0:=by simpa using hj 0 (by omega)
  rw [zeroAt,if_neg h1]
  have:=zeroAt_ge r i (by simpa using h) (fun j hji=>by simpa using hj (j+1) (by omega))
  omega
theorem text11_ok (L:List UInt8):(text11 L).length≤30∧0 ∉ text11 L:=by
 refine ⟨by unfold text11;rw [List.length_take];omega,fun h=>?_⟩
 unfold text11 at h
 obtain ⟨i,hi,he⟩:=List.getElem_of_mem h
 rw [List.length_take] at hi
 have h1:=zeroAt_not (nb L) i (by omega)
 rw [nb_len] at h1
 rw [List.getElem_take] at he
 refine h1.2 ?_
 unfold nb
 simp [List.getD,h1.1,he]
theorem text11_any (w:World)(L:List UInt8):Calls Tryz.prog 16 #[.string (strB L)] w fun e w'=>e = .returned (.string (strB (text11 L)))∧w'=w:=by
 have hsz:=strB_size L
 obtain ⟨S,hS⟩:∃ S,S=strB L:=⟨_,rfl⟩
 rw [← hS] at hsz ⊢
 obtain ⟨n,hn⟩:∃ n,n=L.length:=⟨_,rfl⟩
 rw [← hn] at hsz
 have HSe:=Hd hS;have HN:=Hd hn
 clear hS hn
 have hnl:(nb L).length=n:=by rw [nb_len,HN.out]
 have HNl:=Hd hnl
 clear hnl
 go_enter Tryz.func16,Tryz.ntmps16
 go_wp2_with fail
 go_loopw [3] (fun v3 wr=>∃ i:Nat,v3 = .int .i64 (i:Int)∧i≤n∧i≤30∧wr=w∧Hid (∀ j,j < i→(nb L).getD j 0≠0)) (fun v3 _=>31 - (intOf v3).toNat)
 case atStart=>exact ⟨0,rfl,Nat.zero_le _,by omega,rfl,Hd (fun j h=>by omega)⟩
 case round=>
  obtain ⟨i,rfl,hi,hi30,rfl,HJ⟩:=hrel
  by_cases hin:i < n
  ·have hil:i < L.length:=by rw [← HN.out];exact hin
   have hsat:((S[i]'(by rw [hsz];exact hin)).toNat:Int)=(nb L).getD i 0:=by
    have hs:=HSe.out
    subst hs
    show (((⟨L.toArray⟩:ByteArray).data[i]'(by simpa using hil)).toNat:Int)=_
    simp [nb,List.getD,hil]
   have hix:∀ W,(Instr.index 9 (.string S) (.int .i64 (i:Int))).run Tryz.prog W = .ok (.int .u8 ((nb L).getD i 0)) W:=fun W=>by
    rw [run_index_string W _ _ _ _ Tryz.underlying9,dif_pos ⟨by omega,by rw [hsz];omega⟩,← hsat]
    rfl
   clear hsat
   have hex:S.extract 0 i=strB (L.take i):=by
    rw [HSe.out,strB_extract];simp
   obtain ⟨x,hx⟩:∃ x,x=(nb L).getD i 0:=⟨_,rfl⟩
   rw [← hx] at hix
   have HX:=Hd hx;have HEx:=Hd hex
   clear hx hex
   by_cases h0:x=0
   ·subst h0
    go_wp2
    go_ret
    refine ⟨?_,rfl⟩
    have hz:zeroAt (nb L)=i:=zeroAt_eq (nb L) i (by rw [HNl.out];exact hin) HJ.out HX.out.symm
    have ht:text11 L=L.take i:=by unfold text11;rw [hz,Nat.min_eq_left hi30]
    rw [ht,← HEx.out]
    rfl
   ·have hx0:(x == 0)=false:=by simpa using h0
    by_cases h30:i=30
    ·subst h30
     have hz:30≤zeroAt (nb L):=zeroAt_ge (nb L) 30 (by rw [HNl.out];omega) HJ.out
     have HT:Hid (text11 L=L.take 30):=Hd (by unfold text11;rw [Nat.min_eq_right hz])
     have hix:∀ W,(Instr.index 9 (.string S) (.int .i64 30)).run Tryz.prog W = .ok (.int .u8 x) W:=hix
     clear hz h0
     go_wp2
     go_ret
     refine ⟨?_,rfl⟩
     rw [HT.out,← HEx.out]
     rfl
    ·have h31:((i:Int) == 30)=false:=by rw [beq_eq_false_iff_ne];omega
     have hJ2:∀ j,j < i+1→(nb L).getD j 0≠0:=fun j hj=>by
      by_cases h:j=i
      ·subst h;rw [← HX.out];exact h0
      ·exact HJ.out j (by omega)
     have HJ2:=Hd hJ2
     clear h0 hJ2
     go_wp2
     go_roundw
     case rel=>exact ⟨i+1,by go_num,by omega,by omega,by trivial,HJ2⟩
     case measure=>simp [intOf];omega
  ·have hin2:i=n:=by omega
   subst hin2
   go_wp2
   go_ret
   refine ⟨?_,rfl⟩
   have hz:zeroAt (nb L)=i:=by rw [zeroAt_full (nb L) (fun j hj=>HJ.out j (by rw [← HNl.out];exact hj)),HNl.out]
   have ht:text11 L=L:=by unfold text11;rw [hz,Nat.min_eq_left hi30,HN.out,List.take_length]
   rw [ht,← HSe.out]
   rfl
theorem zero_cellsB (n:Nat):(Builtin.zeroCells #[Value.int .u8 0] n).toList=List.replicate n (.int .u8 0):=by
 apply List.ext_getElem (by simp [Builtin.zeroCells])
 intro i h1 h2
 have e:i % 1=0:=Nat.mod_one i
 simp [Builtin.zeroCells,e]
theorem run_app_zerosB (w:World)(ty g m c:Nat)(xs:List Value)(n:Nat)(hown:w.ownsRow 0 5 1 (.slice (some ⟨g,0,none⟩) m c) m xs)(hn:n≤1000000)(hm:m≤1000000):
  ∃ (a' c':Nat) (w':World),(Builtin.append_ #[22,3] ty #[.slice (some ⟨g,0,none⟩) m c,.int .i64 (n:Int)]).run Tryz.prog w = .ok (.slice (some ⟨a',0,none⟩) (m+n) c') w'∧
   w'.ownsRow 0 5 1 (.slice (some ⟨a',0,none⟩) (m+n) c') (m+n) (xs++List.replicate n (.int .u8 0))∧w.grownBy w' (some g)∧(a'=g∨w.heap.size≤a'):=by
 obtain ⟨i,hi,hz,hsz,hby⟩:=info_parts info5
 have ht:Tryz.prog.underlying 22=some (.slice 5):=Tryz.underlying22
 have htn:Tryz.prog.underlying 3=some (.int .i64):=rfl
 have hzc:(Value.int .u8 0).cells=#[.int .u8 0]:=rfl
 have hlen:(xs++List.replicate n (Value.int .u8 0)).length=(m+n)*1:=by
  rw [List.length_append,hown.1,List.length_replicate];omega
 by_cases hn0:n=0
 ·subst hn0
  refine ⟨g,c,w,?_,by simpa using hown,⟨rfl,rfl,rfl,Nat.le_refl _,fun _ _ _=>rfl⟩,.inl rfl⟩
  rcases hown.2 with ⟨h,_⟩ | ⟨g',cap',cur,h,hbg,hg,hnc,hcm,hcs,htake⟩
  ·simp at h
  ·simp only [Value.slice.injEq,Option.some.injEq,Addr.mk.injEq,and_true,true_and] at h
   obtain ⟨rfl,rfl⟩:=h
   simp [Builtin.append_,run_underlying ht,run_underlying htn,sizeOf,typeInfo,hi,asInt,asIntOf,IntKind.wrap_i64,hnc,storeCells]
 ·rcases hown.2 with ⟨h,_⟩ | ⟨g',cap',cur,h,hbg,hg,hnc,hcm,hcs,htake⟩
  ·simp at h
  ·simp only [Value.slice.injEq,Option.some.injEq,Addr.mk.injEq,and_true,true_and] at h
   obtain ⟨rfl,rfl⟩:=h
   by_cases hroom:m+n≤c
   ·have hfit:m*i.size+(List.replicate n (Value.int .u8 0)).length≤cur.size:=by rw [hcs,hsz,List.length_replicate];omega
    have hst:=run_storeCells_at Tryz.prog g (m*i.size) 5 (List.replicate n (Value.int .u8 0)) 0 cur w hg (by simpa using hfit) (by intro v hv;rw [(List.mem_replicate.1 hv).2];rfl)
    simp only [Nat.add_zero] at hst
    have hw:IntKind.i64.wrap (n:Int)=n:=by rw [IntKind.wrap_i64];omega
    have hneg:¬ ((n:Int) < 0):=by omega
    have h48:¬ (281474976710656 < (n:Int)*(i.bytes:Int)):=by rw [hby];omega
    have hns:¬ (n*i.size=0):=by rw [hsz];omega
    obtain ⟨row,hrow⟩:∃ row,row=(cur.toList.take (m*1)++List.replicate n (Value.int .u8 0)++cur.toList.drop (m*1+n)).toArray:=⟨_,rfl⟩
    have hrun:(Builtin.append_ #[22,3] ty #[.slice (some ⟨g,0,none⟩) m c,.int .i64 (n:Int)]).run Tryz.prog w = .ok (.slice (some ⟨g,0,none⟩) (m+n) c) (w.setRow g row):=by
     rw [hsz] at hst
     simp only [List.length_replicate] at hst
     rw [← hrow] at hst
     simp at hst
     simp [Builtin.append_,run_underlying ht,run_underlying htn,sizeOf,typeInfo,zeroValue,hi,hz,asInt,asIntOf,hw,hn0,hneg,hns,h48,hroom,Addr.add_lit,hzc,zero_cellsB,hsz,hst]
    have hrs:row.size=c*1:=by
     rw [hrow]
     simp only [List.size_toArray,List.length_append,List.length_take,List.length_drop,Array.length_toList,List.length_replicate]
     omega
    have hrt:row.toList.take ((m+n)*1)=xs++List.replicate n (Value.int .u8 0):=by
     rw [hrow,List.toList_toArray,htake,← hlen]
     exact List.take_left
    exact ⟨g,c,_,hrun,⟨hlen,.inr ⟨g,c,row,rfl,hbg,setRow_heap w g cur _ _ _ hg,hroom,hcm,hrs,hrt⟩⟩,⟨rfl,rfl,rfl,by simp,fun k _ hk=>setRow_other w g k _ (fun e=>hk (by simp [e]))⟩,.inl rfl⟩
   ·have hnew:∀ j u,xs[j]?=some u→w.drew.cell? ((⟨g,0,none⟩:Addr).add j)=some u:=hown.cells (g:=g) rfl
    have hold:=run_firstCells_some (P:=Tryz.prog) w.drew 1 m ⟨g,0,none⟩ m c xs hown.1 hnew
    have hr:=Go.Lib.run_append_grow_zeros (P:=Tryz.prog) w 22 3 ty 5 i (.int .u8 0) .i64 .i64 ht htn hi hz (some ⟨g,0,none⟩) m c xs (by rw [hsz];exact hold) n (by omega) (by omega) (by omega) (by omega) (by rw [hby];omega)
     (by rw [hby];exact growslice_fits (by omega) (by omega))
    have hge:=grownCap_ge w (m+n) c 5
    have hcm2:grownCap w (m+n) c 5≤maxLen:=grownCap_le_maxLen w (m+n) c 5 (by unfold maxLen;omega)
    refine ⟨w.heap.size,_,_,hr,⟨hlen,.inr ⟨w.heap.size,_,_,rfl,Nat.zero_le _,heap_alloc_new w.drew _,hge,hcm2,?_,?_⟩⟩,⟨rfl,rfl,rfl,by simp,fun k hk _=>heap_alloc_old w.drew _ hk⟩,.inr (Nat.le_refl _)⟩
    ·have h1:=hown.1
     simp only [Array.size_append,List.size_toArray,size_zeroCells,hzc,h1]
     simp
     omega
    ·simp only [Array.toList_append,List.append_assoc,hzc,zero_cellsB]
     rw [← List.append_assoc,← hlen]
     exact List.take_left
theorem BySt.some {w0 w:World}{a:Option Addr}{l c:Nat}{L:List UInt8}(h:BySt w0 w a l c L)(hne:L≠[]):∃ g,a=some ⟨g,0,none⟩:=by
 have hl:=h.len
 have:0 < L.length:=by cases L with | nil=>exact absurd rfl hne | cons _ _=>simp
 rcases h.own.2 with ⟨_,hz⟩ | ⟨g,cc,cur,hv,_⟩
 ·omega
 ·simp at hv;exact ⟨g,hv.1⟩
theorem by_empty {w0 w:World}(hk:Kept NoB w0 w):BySt w0 (w.alloc (.cells #[] 5)) (some ⟨w.heap.size,0,none⟩) 0 0 []:=
 ⟨rfl,World.ownsRow_lit w #[] 0 (Nat.zero_le _) (Nat.zero_le _) rfl,hk.alloc _,fun k e=>by have:=hk.size;simp [Value.ownBlock] at e;omega⟩
theorem wpList_by_zeros {w:World}{ops:Array Oper}{rest:List Oper}{o:Oper}{act:Act}{Q:Exit→Act→World→Prop}(hgd:o.guard=none)(s x:Operand)
  (ho:o.op = .call { callee := .builtin .append,args:=#[s,x],argTypes:=#[22,3] })
  {w0:World} {a:Option Addr} {l c:Nat} {L:List UInt8} (hS:BySt w0 w a l c L) (hne:L≠[]) (hs:act.eval s = .slice a l c) (n:Nat) (hx:act.eval x = .int .i64 (n:Int)) (hl:l≤1000000) (hn:n≤1000000)
  (h:∀ a2 c2 w',BySt w0 w' a2 (l+n) c2 (L++List.replicate n 0)→wpList Tryz.prog ops Q rest (act.put o.dst (.slice a2 (l+n) c2)) w'):wpList Tryz.prog ops Q (o :: rest) act w:=by
 obtain ⟨g,rfl⟩:=hS.some hne
 refine wpList_plain hgd fun _ hK=>?_
 obtain ⟨a',c',w',hr,h2,h3,h4⟩:=run_app_zerosB w o.type g l c (bc L) n hS.own hn hl
 unfold Oper.wp execOp
 simp only [ho,resolve,invoke,builtin,Sem.run_bind,Sem.run_pure,Result.andThen_ok,List.map_toArray,List.map_cons,List.map_nil,hs,hx,hr]
 have e:List.replicate n (Value.int .u8 0)=bc (List.replicate n 0):=by simp [bc]
 rw [e] at h2
 obtain ⟨a2,c2,hv,hb⟩:=hS.grow (M:=List.replicate n 0) h2 (by simp) h3 (by
  intro k hk
  simp [Value.ownBlock] at hk
  subst hk
  rcases h4 with h | h
  ·subst h;exact .inl rfl
  ·exact .inr h)
 simp at hv
 obtain ⟨rfl,rfl⟩:=hv
 exact hK _ _ (h _ _ _ hb)
theorem cells_str:Tryz.prog.cellsOf 9=1:=by kernel_rfl
def RdS (w:World)(B:Nat)(ao:Option Addr)(ps:List (List UInt8)):Prop:=
 ∀ i,i < ps.length→∃ g off,ao=some ⟨g,off,none⟩∧g < B∧w.cell? ⟨g,off+i,none⟩=some (.string (strB (ps.getD i [])))
theorem RdS.kept {S:Nat→Prop}{w w':World}{B:Nat}{ao:Option Addr}{ps:List (List UInt8)}(h:RdS w B ao ps)(hk:Kept S w w')(hs:∀ k,k < B→¬ S k):RdS w' B ao ps:=by
 intro i hi
 obtain ⟨g,off,h1,h2,h3⟩:=h i hi
 exact ⟨g,off,h1,h2,(World.cell?_of_block (hk.block _ (World.block_lt_of_cell? w _ h3) (hs g h2))).trans h3⟩
theorem RdS.keptNo {w w':World}{B:Nat}{ao:Option Addr}{ps:List (List UInt8)}(h:RdS w B ao ps)(hk:Kept NoB w w'):RdS w' B ao ps:=h.kept hk (fun _ _ h=>h)
theorem Arg.strs {w:World}{v:Value}(h:Arg w 39 v):
  ∃ (ao:Option Addr) (cap:Nat) (ps:List (List UInt8)),v = .slice ao ps.length cap∧ps.length≤cap∧cap≤maxLen∧RdS w w.heap.size ao ps∧(∀ p∈ps,p.length≤maxLen)∧(ao=none→cap=0):=by
 obtain ⟨ao,len,cap,rfl,hl,hm,hn,hc⟩:=h.slice Tryz.underlying39
 rw [cells_str] at hc
 have key:∀ i,∃ z:List UInt8,z.length≤maxLen∧(∀ x,ao=some x→i < len→w.cell? (x.add i)=some (.string (strB z))):=by
  intro i
  by_cases hi:i < len
  ·cases ao with
   | none=>exact ⟨[],by simp,(fun x hx=>by cases hx)⟩
   | some x=>
    obtain ⟨cs,hr,hcl,hcc⟩:=hc x rfl i hi
    obtain ⟨z,rfl,hz⟩:=hr.string Tryz.underlying9
    refine ⟨z.data.toList,by rw [Array.length_toList];exact hz,?_⟩
    intro y hy _
    cases hy
    rw [strB_of]
    simpa using hcc 0 (by simp)
  ·exact ⟨[],by simp,(fun x _ h=>absurd h hi)⟩
 obtain ⟨f,hf⟩:=choose1 key
 refine ⟨ao,cap,(List.range len).map f,by simp,by simpa using hl,hm,?_,?_,(fun h=>(hn h).2)⟩
 ·intro i hi
  have hil:i < len:=by simpa using hi
  cases ao with
  | none=>have:=(hn rfl).1;omega
  | some x=>
   have hcell:=(hf i).2 x rfl hil
   obtain ⟨b,off,spot⟩:=x
   have hs:spot=none:=by
    have:=World.cell?_spot ((hf 0).2 _ rfl (by omega))
    simpa [Addr.add] using this
   subst hs
   have h2:w.cell? ⟨b,off+i,none⟩=some (.string (strB (f i))):=by rwa [addr_add] at hcell
   exact ⟨b,off,rfl,World.block_lt_of_cell? w _ h2,by rw [range_getD f len i [] hil];exact h2⟩
 ·intro p hp
  simp at hp
  obtain ⟨i,_,rfl⟩:=hp
  exact (hf i).1
def mems (ms:List Mm):List UInt8:=(ms.map fun m=>memB m.g m.L m.body).flatten
theorem mems_snoc (ms:List Mm)(m:Mm):mems (ms++[m])=mems ms++memB m.g m.L m.body:=by unfold mems;simp
theorem go_init {M a2:Nat}{e2:Int}{o2:List UInt8}{g2:List GzP}{T:List Int}(hT:∃ t,T=31 :: t):∀ (ms:List Mm) (pre:List Int) (out:List UInt8) (gs:List GzP),(∀ m∈ms,m.Ok)→out.length+(ms.map (·.L)).flatten.length≤M→
  GoG (pre++(nb (mems ms)++T)) M (pre.length+(mems ms).length) (out++(ms.map (·.L)).flatten) (gs++ms.map (·.g)) a2 e2 o2 g2→GoG (pre++(nb (mems ms)++T)) M pre.length out gs a2 e2 o2 g2
 | [],pre,out,gs,_,_,h=>by
  have e:mems []=[]:=rfl
  rw [e] at h ⊢
  simpa using h
 | m :: r,pre,out,gs,hok,hM,h=>by
  have hm:=hok m List.mem_cons_self
  have em:mems (m :: r)=memB m.g m.L m.body++mems r:=rfl
  have eb:pre++(nb (mems (m :: r))++T)=pre++(nb (memB m.g m.L m.body)++(nb (mems r)++T)):=by
   rw [em,nb_app,List.append_assoc]
  have eb2:(pre++nb (memB m.g m.L m.body))++(nb (mems r)++T)=pre++(nb (memB m.g m.L m.body)++(nb (mems r)++T)):=by
   rw [List.append_assoc]
  have e31:∃ t,nb (mems r)++T=31 :: t:=by
   cases r with
   | nil=>exact hT
   | cons m2 r2=>
    obtain ⟨t,ht⟩:=memB_head m2
    have e:mems (m2 :: r2)=memB m2.g m2.L m2.body++mems r2:=rfl
    rw [e,nb_app,ht]
    exact ⟨_,rfl⟩
  obtain ⟨t2,ht2⟩:=e31
  have hM1:out.length+m.L.length+(r.map (·.L)).flatten.length≤M:=by
   simp only [List.map_cons,List.flatten_cons,List.length_append] at hM;omega
  have ih:=go_init hT r (pre++nb (memB m.g m.L m.body)) (out++m.L) (gs++[m.g]) (fun x hx=>hok x (List.mem_cons_of_mem _ hx)) (by rw [List.length_append];exact hM1) (by
   rw [eb2,← eb]
   have e0:(pre++nb (memB m.g m.L m.body)).length+(mems r).length=pre.length+(mems (m :: r)).length:=by
    rw [em,List.length_append,List.length_append,nb_len];omega
   have e1:(out++m.L)++(r.map (·.L)).flatten=out++((m :: r).map (·.L)).flatten:=by simp
   have e2:(gs++[m.g])++r.map (·.g)=gs++(m :: r).map (·.g):=by simp
   rw [e0,e1,e2]
   exact h)
  rw [eb2] at ih
  rw [eb]
  refine GoG.next (m:=m) (rnd_mem hm (by omega)) (tail_whole _ _ (tail_le1 hm)) ?_ ?_ ?_
  ·rw [memB_next,ht2]
   simp only [List.length_append,nb_len,List.length_cons]
   omega
  ·rw [drop_mem,ht2,leadZ,if_neg (by decide)]
  ·rw [memB_next,← nb_len,← List.length_append]
   exact ih
theorem snoc_ex {α:Type}{l:List α}(h:l≠[]):∃ i a,l=i++[a]:=⟨l.dropLast,l.getLast h,(List.dropLast_concat_getLast h).symm⟩
theorem go_junk {M:Nat}(ms:List Mm)(hne:ms≠[])(hok:∀ m∈ms,m.Ok)(hM:(ms.map (·.L)).flatten.length≤M):GoG (nb (mems ms)++[0,0,7]) M 0 [] [] ((mems ms).length+2) 8 (ms.map (·.L)).flatten (ms.map (·.g)):=by
 obtain ⟨i,a,rfl⟩:=snoc_ex hne
 have ha:=hok a (by simp)
 obtain ⟨t,ht⟩:=memB_head a
 have hM2:(i.map (·.L)).flatten.length+a.L.length≤M:=by simpa using hM
 have e:=go_init (M:=M) (a2:=(mems (i++[a])).length+2) (e2:=8) (o2:=((i++[a]).map (·.L)).flatten) (g2:=(i++[a]).map (·.g)) (T:=nb (memB a.g a.L a.body)++[0,0,7]) ⟨t++[0,0,7],by rw [ht];rfl⟩ i [] [] [] (fun m hm=>hok m (by simp [hm])) (by show 0+(i.map (·.L)).flatten.length≤M;omega) (by
  have hl:(nb (mems i)).length=(mems i).length:=nb_len _
  have ez:leadZ ([0,0,7]:List Int)=2:=by decide
  have h:=GoG.junk (b:=nb (mems i)++(nb (memB a.g a.L a.body)++[0,0,7])) (M:=M) (at_:=(nb (mems i)).length) (out:=(i.map (·.L)).flatten) (gs:=i.map (·.g)) (m:=a) (rnd_mem ha hM2) (tail_whole _ _ (tail_le1 ha)) (by
   rw [drop_mem,ez,memB_next]
   simp only [List.length_append,nb_len,List.length_cons,List.length_nil]
   omega) (by rw [drop_mem,ez];decide)
  rw [drop_mem,ez,memB_next,hl] at h
  have e0:(mems i).length+(memB a.g a.L a.body).length+2=(mems (i++[a])).length+2:=by rw [mems_snoc,List.length_append]
  have e1:(i.map (·.L)).flatten++a.L=((i++[a]).map (·.L)).flatten:=by simp
  have e2:i.map (·.g)++[a.g]=(i++[a]).map (·.g):=by simp
  rw [e0,e1,e2] at h
  simpa using h)
 have eb:nb (mems (i++[a]))++[0,0,7]=[]++(nb (mems i)++(nb (memB a.g a.L a.body)++[0,0,7])):=by
  rw [mems_snoc,nb_app,List.append_assoc];rfl
 rw [eb]
 exact e
theorem go_short {M:Nat}(ms:List Mm)(hne:ms≠[])(hok:∀ m∈ms,m.Ok)(hM:(ms.map (·.L)).flatten.length≤M):GoG ((nb (mems ms)).take ((mems ms).length - 1)) M 0 [] [] ((mems ms).length - 1) 2 (ms.map (·.L)).flatten (ms.map (·.g)):=by
 obtain ⟨i,a,rfl⟩:=snoc_ex hne
 have ha:=hok a (by simp)
 have hM2:(i.map (·.L)).flatten.length+a.L.length≤M:=by simpa using hM
 have hl:(nb (mems i)).length=(mems i).length:=nb_len _
 obtain ⟨tl,htl⟩:∃ tl,tl=nb (leB 4 (crcL a.L))++(nb (leB 4 a.L.length)).take 3:=⟨_,rfl⟩
 have htn:tl.length=7:=by rw [htl];simp [nb_len,leB_len]
 have eT:(nb (memB a.g a.L a.body)).take ((memB a.g a.L a.body).length - 1)=nb (headG a.g)++(nb a.body++tl):=by
  have e1:nb (memB a.g a.L a.body)=(nb (headG a.g)++(nb a.body++nb (leB 4 (crcL a.L))))++nb (leB 4 a.L.length):=by unfold memB;simp [nb]
  have e2:(memB a.g a.L a.body).length - 1=(nb (headG a.g)++(nb a.body++nb (leB 4 (crcL a.L)))).length+3:=by
   unfold memB
   simp only [List.length_append,nb_len,leB_len];omega
  rw [e1,e2,List.take_length_add_append,htl]
  simp
 have hb1:(memB a.g a.L a.body).length=(headG a.g).length+a.body.length+8:=by unfold memB;simp only [List.length_append,leB_len]
 have eb:(nb (mems (i++[a]))).take ((mems (i++[a])).length - 1)=[]++(nb (mems i)++(nb (headG a.g)++(nb a.body++tl))):=by
  have e1:(mems (i++[a])).length - 1=(nb (mems i)).length+((memB a.g a.L a.body).length - 1):=by
   rw [mems_snoc,List.length_append,hl];omega
  rw [e1,mems_snoc,nb_app,List.take_length_add_append,eT]
  rfl
 have h31:∃ t,nb (headG a.g)++(nb a.body++tl)=31 :: t:=⟨_,rfl⟩
 rw [eb]
 refine go_init h31 i [] [] [] (fun m hm=>hok m (by simp [hm])) (by show 0+(i.map (·.L)).flatten.length≤M;omega) ?_
 have hts:tailS tl (crcL a.L) a.L.length=(7,2):=by
  have n1:num (nb (leB 4 (crcL a.L)))=crcL a.L:=leB_num 4 _ (crc16_nat _)
  have h1:(nb (leB 4 (crcL a.L))).length=4:=by rw [nb_len,leB_len]
  have e1:tl.take 4=nb (leB 4 (crcL a.L)):=by rw [htl];exact List.take_left' h1
  unfold tailS
  rw [e1,n1,if_neg (fun k=>k.2 rfl),htn,if_pos (by decide)]
 have h:=GoG.bad (b:=nb (mems i)++(nb (headG a.g)++(nb a.body++tl))) (M:=M) (at_:=(nb (mems i)).length) (out:=(i.map (·.L)).flatten) (gs:=i.map (·.g)) (m:=a) (tl:=tl) ⟨by rw [List.drop_left],ha,hM2⟩ hts (by decide)
 have e0:a.next (nb (mems i)).length+7=(mems (i++[a])).length - 1:=by
  have:=memB_next a (nb (mems i)).length
  rw [mems_snoc,List.length_append]
  rw [hl] at this ⊢
  omega
 have e1:(i.map (·.L)).flatten++a.L=((i++[a]).map (·.L)).flatten:=by simp
 have e2:i.map (·.g)++[a.g]=(i++[a]).map (·.g):=by simp
 rw [e0,e1,e2,hl] at h
 simpa using h
end Go.Proofs.YtfmjfgmbjdhogaaGreatDoor
