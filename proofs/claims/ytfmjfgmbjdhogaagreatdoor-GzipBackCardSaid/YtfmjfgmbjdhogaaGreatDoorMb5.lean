import Derived.Test.YtfmjfgmbjdhogaaGreatDoorMb4
import Derived.Laws.CopyOwn
import Derived.Deep.RegionLaw
import Derived.Deep.CutBlock
import Derived.OwnWalk
set_option linter.unusedVariables false
set_option linter.unusedSimpArgs false
set_option maxRecDepth 20000
set_option maxHeartbeats 8000000
namespace Go.Proofs.YtfmjfgmbjdhogaaGreatDoor
open Go.RowKit
theorem infoIt:(Tryz.prog.info? 244).map (fun i=>(i.zero,i.size,i.bytes))=some (some (.agg #[.int .i64 0,.bool false]),2,16):=by kernel_rfl
def RdIt (w:World)(B:Nat)(ao:Option Addr)(rs:List (Int × Bool)):Prop:=
 ∀ i,i < rs.length→∃ g off,ao=some ⟨g,off,none⟩∧g < B∧w.cell? ⟨g,off+i*2,none⟩=some (.int .i64 (rs.getD i (0,false)).1)∧w.cell? ⟨g,off+i*2+1,none⟩=some (.bool (rs.getD i (0,false)).2)
def RdLf (w:World)(B:Nat)(ao:Option Addr)(rs:List (Int × Int)):Prop:=
 ∀ i,i < rs.length→∃ g off,ao=some ⟨g,off,none⟩∧g < B∧w.cell? ⟨g,off+i*2,none⟩=some (.int .i64 (rs.getD i (0,0)).1)∧w.cell? ⟨g,off+i*2+1,none⟩=some (.int .i64 (rs.getD i (0,0)).2)
theorem RdIt.tail {w:World}{B g off c i:Nat}{rs:List (Int × Bool)}(h:RdIt w B (some ⟨g,off,none⟩) (rs.drop (2*i)))(hc:(rs.drop (2*i)).length≤c):
  RdIt w B (if c=2 then some ⟨g,off,none⟩ else some ⟨g,off+4,none⟩) (rs.drop (2*(i+1))):=by
 intro j hj
 have hj':j+2 < (rs.drop (2*i)).length:=by simp at hj ⊢;omega
 obtain ⟨g',off',he,h2,h3,h4⟩:=h (j+2) hj'
 cases he
 have e:(rs.drop (2*(i+1))).getD j (0,false)=(rs.drop (2*i)).getD (j+2) (0,false):=by
  simp only [List.getD_eq_getElem?_getD,List.getElem?_drop]
  rw [show 2*(i+1)+j=2*i+(j+2) by omega]
 rw [e]
 refine ⟨g,off+4,by rw [if_neg (by omega)],h2,?_,?_⟩
 ·rw [show off+4+j*2=off+(j+2)*2 by omega];exact h3
 ·rw [show off+4+j*2+1=off+(j+2)*2+1 by omega];exact h4
theorem RdLf.kept {w w':World}{B:Nat}{ao:Option Addr}{rs:List (Int × Int)}(h:RdLf w B ao rs)(hk:Kept NoB w w'):RdLf w' B ao rs:=by
 intro i hi
 obtain ⟨g,off,h1,h2,h3,h4⟩:=h i hi
 exact ⟨g,off,h1,h2,hk.cell h3,hk.cell h4⟩
def icells (rs:List (Int × Bool)):List Value:=rs.flatMap fun p=>[.int .i64 p.1,.bool p.2]
theorem icells_app (rs:List (Int × Bool))(s:Int)(x:Bool):icells rs++[.int .i64 s,.bool x]=icells (rs++[(s,x)]):=by simp [icells]
theorem icells_at:∀ (rs:List (Int × Bool)) (i:Nat),i < rs.length→(icells rs)[i*2]?=some (.int .i64 (rs.getD i (0,false)).1)∧(icells rs)[i*2+1]?=some (.bool (rs.getD i (0,false)).2):=by
 intro rs
 induction rs with
 | nil=>intro i hi;simp at hi
 | cons p r ih=>
  intro i hi
  have e:icells (p :: r) = .int .i64 p.1 :: .bool p.2 :: icells r:=by simp [icells]
  rw [e]
  cases i with
  | zero=>exact ⟨rfl,rfl⟩
  | succ i=>
   have hi':i < r.length:=by simpa using hi
   obtain ⟨h1,h2⟩:=ih i hi'
   rw [show (i+1)*2=i*2+1+1 by omega]
   refine ⟨?_,?_⟩
   ·simpa using h1
   ·rw [List.getElem?_cons_succ,List.getElem?_cons_succ];simpa using h2
def OwnIt (w:World)(ao:Option Addr)(cap:Nat)(rs:List (Int × Bool)):Prop:=w.ownsRow 0 244 2 (.slice ao rs.length cap) rs.length (icells rs)
theorem OwnIt.reads {w:World}{a:Option Addr}{c:Nat}{rs:List (Int × Bool)}(h:OwnIt w a c rs):RdIt w w.heap.size a rs:=by
 intro i hi
 rcases h.2 with ⟨_,hz⟩ | ⟨g,cc,cur,hv,_⟩
 ·omega
 ·simp at hv
  obtain ⟨rfl,rfl⟩:=hv
  obtain ⟨h1,h2⟩:=icells_at rs i hi
  have hc1:w.cell? ⟨g,i*2,none⟩=some (.int .i64 (rs.getD i (0,false)).1):=by
   rw [← h1];exact h.cellAt (i*2) (by omega)
  have hc2:w.cell? ⟨g,i*2+1,none⟩=some (.bool (rs.getD i (0,false)).2):=by
   rw [← h2];exact h.cellAt (i*2+1) (by omega)
  exact ⟨g,0,rfl,World.block_lt_of_cell? w _ hc1,by rw [Nat.zero_add];exact hc1,by rw [Nat.zero_add];exact hc2⟩
def mergeW (w:Int)(rest:List Int→List (Int × Bool)):List Int→List (Int × Bool)
 | []=>(w,true) :: rest []
 | z :: r=>if z≤w then (z,false) :: mergeW w rest r else (w,true) :: rest (z :: r)
def mergeS:List (Int × Bool)→List Int→List (Int × Bool)
 | a :: b :: r,ls=>mergeW (a.1+b.1) (mergeS r) ls
 | _,ls=>ls.map fun z=>(z,false)
theorem mergeS_two (ah:List (Int × Bool))(i:Nat)(ls:List Int)(h:i+1 < ah.length):
  mergeS (ah.drop i) ls=mergeW ((ah.getD i (0,false)).1+(ah.getD (i+1) (0,false)).1) (mergeS (ah.drop (i+2))) ls:=by
 rw [List.drop_eq_getElem_cons (by omega:i < ah.length),List.drop_eq_getElem_cons h]
 have h0:i < ah.length:=by omega
 simp [mergeS,List.getD,h,h0]
theorem mergeS_few (ah:List (Int × Bool))(i:Nat)(ls:List Int)(h:ah.length≤i+1):mergeS (ah.drop i) ls=ls.map fun z=>(z,false):=by
 by_cases h0:i < ah.length
 ·rw [List.drop_eq_getElem_cons h0,List.drop_of_length_le (by omega)];rfl
 ·rw [List.drop_of_length_le (by omega)];rfl
theorem mergeW_len (w:Int)(rest:List Int→List (Int × Bool))(n:Nat)(hr:∀ l,(rest l).length=l.length+n):∀ l,(mergeW w rest l).length=l.length+(n+1)
 | []=>by simp [mergeW,hr]
 | z :: r=>by
  unfold mergeW
  split
  ·simp [mergeW_len w rest n hr r];omega
  ·simp [hr];omega
theorem mergeS_len:∀ (ah:List (Int × Bool)) (l:List Int),(mergeS ah l).length=l.length+ah.length / 2
 | [],l=>by simp [mergeS]
 | [a],l=>by simp [mergeS]
 | a :: b :: r,l=>by
  have:=mergeW_len (a.1+b.1) (mergeS r) (r.length / 2) (mergeS_len r) l
  simp only [mergeS,this,List.length_cons];omega
theorem mergeW_step (w:Int)(f:List Int→List (Int × Bool))(lv:List (Int × Int))(i:Nat)(h:i < lv.length):
  mergeW w f ((lv.map (·.2)).drop i)=if (lv.getD i (0,0)).2≤w then ((lv.getD i (0,0)).2,false) :: mergeW w f ((lv.map (·.2)).drop (i+1)) else (w,true) :: f ((lv.map (·.2)).drop i):=by
 have e:(lv.map (·.2)).drop i=(lv.getD i (0,0)).2 :: (lv.map (·.2)).drop (i+1):=by
  rw [List.drop_eq_getElem_cons (by simpa using h)];simp [List.getD,h]
 rw [e]
 rfl
theorem mergeW_end (w:Int)(f:List Int→List (Int × Bool))(lv:List (Int × Int))(i:Nat)(h:lv.length≤i):
  mergeW w f ((lv.map (·.2)).drop i)=(w,true) :: f ((lv.map (·.2)).drop i):=by
 rw [List.drop_of_length_le (by simpa using h)];rfl
theorem lf_step (lv:List (Int × Int))(i:Nat)(h:i < lv.length):(lv.map (·.2)).drop i=(lv.getD i (0,0)).2 :: (lv.map (·.2)).drop (i+1):=by
 rw [List.drop_eq_getElem_cons (by simpa using h)];simp [List.getD,h]
theorem lf_end (lv:List (Int × Int))(i:Nat)(h:lv.length≤i):(lv.map (·.2)).drop i=[]:=List.drop_of_length_le (by simpa using h)
def SmallL (lv:List (Int × Int)):Prop:=∀ p∈lv,0≤p.2∧p.2≤1048576
def SmallIt (m:Int)(rs:List (Int × Bool)):Prop:=∀ p∈rs,0≤p.1∧p.1≤m
theorem SmallIt.getD {m:Int}{rs:List (Int × Bool)}(h:SmallIt m rs)(hm:0≤m)(i:Nat):0≤(rs.getD i (0,false)).1∧(rs.getD i (0,false)).1≤m:=by
 by_cases hi:i < rs.length
 ·have:rs.getD i (0,false)=rs[i]:=by simp [List.getD,hi]
  rw [this];exact h _ (List.getElem_mem hi)
 ·have:rs.getD i (0,false)=(0,false):=by simp [List.getD,List.getElem?_eq_none (Nat.le_of_not_lt hi)]
  rw [this];exact ⟨Int.le_refl 0,hm⟩
theorem SmallL.getD {lv:List (Int × Int)}(h:SmallL lv)(i:Nat):0≤(lv.getD i (0,0)).2∧(lv.getD i (0,0)).2≤1048576:=by
 by_cases hi:i < lv.length
 ·have:lv.getD i (0,0)=lv[i]:=by simp [List.getD,hi]
  rw [this];exact h _ (List.getElem_mem hi)
 ·have:lv.getD i (0,0)=(0,0):=by simp [List.getD,List.getElem?_eq_none (Nat.le_of_not_lt hi)]
  rw [this];decide
theorem news_it (w:World)(s:Int)(x:Bool):∀ (k:Nat) (u:Value),[Value.int .i64 s,.bool x][k]?=some u→(w.alloc (.cells #[.int .i64 s,.bool x] 244)).cell? ((⟨w.heap.size,0,none⟩:Addr).add k)=some u:=by
 intro k u hk
 rw [addr_add,Nat.zero_add,cell_new k rfl]
 simpa using hk
theorem own_shape2 {w:World}{base e s:Nat}{v:Value}{n:Nat}{xs:List Value}(h:w.ownsRow base e s v n xs):∃ ao cap,v = .slice ao n cap:=by
 rcases h.2 with ⟨rfl,rfl⟩ | ⟨g,cap,cur,rfl,_⟩
 ·exact ⟨none,0,rfl⟩
 ·exact ⟨_,cap,rfl⟩
def lenN:Value→Nat | .slice _ n _=>n | _=>0
structure RowSt (w0 w:World)(a:Option Addr)(c:Nat)(rs:List (Int × Bool)):Prop where
 own:OwnIt w a c rs
 kept:Kept NoB w0 w
 fresh:∀ k,(Value.slice a rs.length c).ownBlock=some k→w0.heap.size≤k
theorem RowSt.drewN {w0 w:World}{a:Option Addr}{c:Nat}{rs:List (Int × Bool)}(h:RowSt w0 w a c rs)(n:Nat):RowSt w0 (w.drewN n) a c rs:=⟨(Kept.refl NoB w).drewN n |>.row h.own (fun _ _ h=>h),h.kept.drewN n,h.fresh⟩
theorem RowSt.alloc {w0 w:World}{a:Option Addr}{c:Nat}{rs:List (Int × Bool)}(h:RowSt w0 w a c rs)(o:Obj):RowSt w0 (w.alloc o) a c rs:=⟨h.own.alloc o,h.kept.alloc o,h.fresh⟩
theorem RowSt.app {w0 wr w2:World}{a' a2:Option Addr}{c' c2 len:Nat}{rs:List (Int × Bool)}{s:Int}{x:Bool}{o:Obj}(h:RowSt w0 wr a' c' rs)(hlen:len=rs.length)
  (hown:w2.ownsRow 0 244 2 (.slice a2 (len+1) c2) (len+1) (icells rs++[.int .i64 s,.bool x])) (hgrow:(wr.alloc o).grownBy w2 (Value.slice a' len c').ownBlock)
  (hnew:∀ k,(Value.slice a2 (len+1) c2).ownBlock=some k→(Value.slice a' len c').ownBlock=some k∨wr.heap.size+1≤k):RowSt w0 w2 a2 c2 (rs++[(s,x)]):=by
 subst hlen
 have hl:(rs++[(s,x)]).length=rs.length+1:=by simp
 refine ⟨?_,?_,?_⟩
 ·unfold OwnIt
  rw [hl,← icells_app]
  exact hown
 ·exact (h.kept.alloc o).grown hgrow (fun k hk e=>by have:=h.fresh k e;omega)
 ·intro k hk
  rw [hl] at hk
  rcases hnew k hk with h1 | h1
  ·exact h.fresh k h1
  ·have:=h.kept.size;omega
theorem merged_calls (lo ao:Option Addr)(lc ac B C:Nat)(lv:List (Int × Int))(ah:List (Int × Bool))(w:World)(hl:RdLf w B lo lv)(ha:RdIt w C ao ah)(hls:SmallL lv)(has:SmallIt 1125899906842624 ah)
  (hll:lv.length≤1000) (hal:ah.length≤10000) (hac:ah.length≤ac∧ac≤maxLen) (hlc:lv.length≤lc∧lc≤maxLen):
  Calls Tryz.prog 184 #[.slice lo lv.length lc,.slice ao ah.length ac] w fun e w'=>∃ a' c',e = .returned (.slice a' (mergeS ah (lv.map (·.2))).length c')∧RowSt w w' a' c' (mergeS ah (lv.map (·.2))):=by
 have HL:=Hd hl;have HA:=Hd ha;have HLs:=Hd hls;have HAs:=Hd has
 obtain ⟨i0,hi,hz0,hz1,hz2⟩:=info_parts infoIt
 obtain ⟨R,hR⟩:∃ R,R=mergeS ah (lv.map (·.2)):=⟨_,rfl⟩
 have HRe:=Hd hR
 rw [← hR]
 clear hR
 obtain ⟨n,hn⟩:∃ n,n=lv.length:=⟨_,rfl⟩
 obtain ⟨m,hm⟩:∃ m,m=ah.length:=⟨_,rfl⟩
 have HN:=Hd hn;have HM:=Hd hm
 rw [← hn] at hll hlc ⊢
 rw [← hm] at hal hac ⊢
 clear hl ha hls has hn hm
 obtain ⟨h1,h2⟩:=hac
 obtain ⟨h3,h4⟩:=hlc
 go_enter Tryz.func184,Tryz.ntmps184
 go_wp2_with (at_make;refine wpList_make_own _ rfl _ _ 241 rfl 0 244 i0 (.agg #[.int .i64 0,.bool false]) 2 Tryz.underlying241 hi hz0 hz1 .i64 .i64 _ (n+m / 2) rfl rfl (by omega) ?b2 ?b3 (Nat.zero_le _) ?_)
 case b2=>rw [hz2];omega
 case b3=>unfold maxLen;omega
 intro w0 hown0 hgrow0
 have hst0:RowSt w w0 (some ⟨w.heap.size,0,none⟩) (n+m / 2) []:=⟨hown0,(Kept.refl _ _).grown hgrow0 (fun k _ e=>by cases e),fun k hk=>by simp [Value.ownBlock] at hk;omega⟩
 have HSt0:=Hd hst0
 clear hown0 hgrow0 hst0
 go_wp2
 go_loopw [1,5,6,7] (fun v1 v5 v6 _v7 wr=>∃ (i nx:Nat) (rs:List (Int × Bool)) (a1 a5:Option Addr) (m1 c1 l5 c5:Nat),v1 = .slice a1 m1 c1∧v5 = .slice a5 l5 c5∧v6 = .int .i64 (nx:Int)∧m1+2*i=m∧m1≤c1∧c1≤ac∧nx≤n∧Hid (l5=rs.length)∧l5≤nx+i∧Hid (RdIt w C a1 (ah.drop (2*i)))∧Hid (RowSt w wr a5 c5 rs)∧Hid (rs++mergeS (ah.drop (2*i)) ((lv.map (·.2)).drop nx)=R)) (fun v1 _ _ _ _=>lenN v1)
 case atStart=>exact ⟨0,0,[],ao,_,m,ac,0,_,rfl,rfl,rfl,by omega,by omega,by omega,by omega,Hd rfl,by omega,HA,HSt0,Hd (by simpa using HRe.out.symm)⟩
 case round=>
  obtain ⟨i,nx,rs,a1,a5,m1,c1,l5,c5,rfl,rfl,rfl,hm1,hc1,hc2,hnx,HL5,hl5,HA1,HS,HX⟩:=hrel
  clear HSt0
  by_cases hge:2≤m1
  ·obtain ⟨g,off,rfl,hgl,hx0,_⟩:=HA1.out 0 (by have:=HM.out;simp;omega)
   obtain ⟨g',off',he,_,hy0,_⟩:=HA1.out 1 (by have:=HM.out;simp;omega)
   cases he
   have hx1:=HS.out.kept.cell hx0
   have hy1:=HS.out.kept.cell hy0
   simp only [List.getD_eq_getElem?_getD,List.getElem?_drop,Nat.add_zero,Nat.zero_mul,Nat.one_mul] at hx1 hy1
   rw [← List.getD_eq_getElem?_getD] at hx1 hy1
   have hbx:=HAs.out.getD (by decide) (2*i)
   have hby:=HAs.out.getD (by decide) (2*i+1)
   have hme:=HX.out
   rw [mergeS_two ah (2*i) _ (by have:=HM.out;omega)] at hme
   obtain ⟨x,hx⟩:∃ x,x=(ah.getD (2*i) (0,false)).1:=⟨_,rfl⟩
   obtain ⟨y,hy⟩:∃ y,y=(ah.getD (2*i+1) (0,false)).1:=⟨_,rfl⟩
   rw [← hx] at hx1 hbx hme
   rw [← hy] at hy1 hby hme
   have hw:wrap64 (x+y)=x+y:=IntWalk.wrap64_in _ (by omega)
   have HW:=Hd hw;have HMe:=Hd hme
   clear hx hy hx0 hy0 hw hme HX hgl
   go_upto_region 5 with fail
   go_quiet (fail)
   obtain ⟨W,hW⟩:∃ W,W=x+y:=⟨_,rfl⟩
   have hd:decide ((2:Int)≤(m1:Int))=true:=decide_eq_true (by omega)
   rw [← hW,hd] 
   rw [← hW] at HMe
   clear hd
   obtain ⟨a1',ha1'⟩:∃ a,a=(if c1=2 then some (⟨g,off,none⟩:Addr) else some ⟨g,off+4,none⟩):=⟨_,rfl⟩
   have hA2:RdIt w C a1' (ah.drop (2*(i+1))):=by
    rw [ha1']
    exact HA1.out.tail (by have:=HM.out;simp;omega)
   have HA2:=Hd hA2;have HAe:=Hd ha1'.symm
   clear hA2 ha1'
   have HS0:Hid (RowSt w (wr.drewN nq) a5 c5 rs):=Hd (HS.out.drewN nq)
   clear hW HW hx1 hy1 hbx hby HA1 HS
   go_wp2
   go_loopw [5,6] (fun v5 v6 wx=>∃ (nx:Nat) (rs:List (Int × Bool)) (a5:Option Addr) (l5 c5:Nat),v5 = .slice a5 l5 c5∧v6 = .int .i64 (nx:Int)∧nx≤n∧Hid (l5=rs.length)∧l5≤nx+i∧Hid (RowSt w wx a5 c5 rs)∧Hid (rs++mergeW W (mergeS (ah.drop (2*i+2))) ((lv.map (·.2)).drop nx)=R)) (fun _ v6 _=>n - (intOf v6).toNat)
   case atStart=>exact ⟨nx,rs,a5,l5,c5,rfl,rfl,hnx,HL5,hl5,HS0,HMe⟩
   case round=>
    clear HS0 HMe HL5 hl5 hnx
    obtain ⟨nx,rs,a5,l5,c5,rfl,rfl,hnx,HL5,hl5,HS,HX⟩:=hrel
    have hrow:=HS.out.own
    unfold OwnIt at hrow
    rw [← HL5.out] at hrow
    by_cases hlt:(nx:Int) < n
    ·obtain ⟨gl,ofl,rfl,_,_,hz0'⟩:=HL.out nx (by have:=HN.out;omega)
     have hzc:=HS.out.kept.cell hz0'
     have hst:=HX.out
     rw [mergeW_step W _ lv nx (by have:=HN.out;omega)] at hst
     have hbz:=HLs.out.getD nx
     obtain ⟨z,hz⟩:∃ z,z=(lv.getD nx (0,0)).2:=⟨_,rfl⟩
     rw [← hz] at hzc hst hbz
     clear hz hz0' HX
     by_cases hle:z≤W
     ·rw [if_pos hle] at hst
      have HX2:=Hd hst
      have hrow2:=hrow.alloc (.cells #[.int .i64 z,.bool false] 244)
      have HRow:=Hd hrow2;have HNw:=Hd (news_it wr z false)
      clear hrow hrow2 hst
      go_wp2_with (at_builtin;refine wpList_app _ rfl _ _ 241 rfl 244 i0 (.agg #[.int .i64 0,.bool false]) 2 16 Tryz.underlying241 hi hz0 hz1 hz2 rfl (by decide) _ l5 (icells rs) rfl HRow.out ⟨wr.heap.size,0,none⟩ 1 1 [.int .i64 z,.bool false] rfl rfl HNw.out ?d2 ?d3 ?d4 ?_)
      case d2=>first | rfl | (intro u hu;simp at hu;rcases hu with rfl | rfl <;> rfl) | (simp [Value.oneCell'])
      case d3=>unfold maxLen;omega
      case d4=>omega
      intro v' w2 hown' hgrow hnew
      obtain ⟨a2,c2,rfl⟩:=own_shape2 hown'
      have HSt:=Hd (HS.out.app HL5.out hown' hgrow hnew)
      clear hown' hgrow hnew
      go_wp2
      go_roundw
      case rel=>exact ⟨nx+1,rs++[(z,false)],a2,l5+1,c2,rfl,by go_num,by omega,Hd (by rw [HL5.out];simp),by omega,HSt,Hd (by rw [List.append_assoc];exact HX2.out)⟩
      case measure=>simp [intOf];omega
     ·rw [if_neg hle] at hst
      have HX2:=Hd hst
      have hrow2:=hrow.alloc (.cells #[.int .i64 W,.bool true] 244)
      have HRow:=Hd hrow2;have HNw:=Hd (news_it wr W true)
      clear hrow hrow2 hst
      go_wp2_with (at_builtin;refine wpList_app _ rfl _ _ 241 rfl 244 i0 (.agg #[.int .i64 0,.bool false]) 2 16 Tryz.underlying241 hi hz0 hz1 hz2 rfl (by decide) _ l5 (icells rs) rfl HRow.out ⟨wr.heap.size,0,none⟩ 1 1 [.int .i64 W,.bool true] rfl rfl HNw.out ?d2 ?d3 ?d4 ?_)
      case d2=>first | rfl | (intro u hu;simp at hu;rcases hu with rfl | rfl <;> rfl) | (simp [Value.oneCell'])
      case d3=>unfold maxLen;omega
      case d4=>omega
      intro v' w2 hown' hgrow hnew
      obtain ⟨a2,c2,rfl⟩:=own_shape2 hown'
      have HSt:=Hd (HS.out.app HL5.out hown' hgrow hnew)
      clear hown' hgrow hnew
      go_wp2
      go_roundw
      case rel=>exact ⟨i+1,nx,rs++[(W,true)],a1',a2,m1 - 2,c1 - 2,l5+1,c2,by rw [HAe.out],rfl,rfl,by omega,by omega,by omega,hnx,Hd (by rw [HL5.out];simp),by omega,HA2,HSt,Hd (by rw [List.append_assoc];exact HX2.out)⟩
      case measure=>simp [lenN];omega
    ·have hst:=HX.out
     rw [mergeW_end W _ lv nx (by have:=HN.out;omega)] at hst
     clear HX
     have HX2:=Hd hst
     have hrow2:=hrow.alloc (.cells #[.int .i64 W,.bool true] 244)
     have HRow:=Hd hrow2;have HNw:=Hd (news_it wr W true)
     clear hrow hrow2 hst
     go_wp2_with (at_builtin;refine wpList_app _ rfl _ _ 241 rfl 244 i0 (.agg #[.int .i64 0,.bool false]) 2 16 Tryz.underlying241 hi hz0 hz1 hz2 rfl (by decide) _ l5 (icells rs) rfl HRow.out ⟨wr.heap.size,0,none⟩ 1 1 [.int .i64 W,.bool true] rfl rfl HNw.out ?d2 ?d3 ?d4 ?_)
     case d2=>first | rfl | (intro u hu;simp at hu;rcases hu with rfl | rfl <;> rfl) | (simp [Value.oneCell'])
     case d3=>unfold maxLen;omega
     case d4=>omega
     intro v' w2 hown' hgrow hnew
     obtain ⟨a2,c2,rfl⟩:=own_shape2 hown'
     have HSt:=Hd (HS.out.app HL5.out hown' hgrow hnew)
     clear hown' hgrow hnew
     go_wp2
     go_roundw
     case rel=>exact ⟨i+1,nx,rs++[(W,true)],a1',a2,m1 - 2,c1 - 2,l5+1,c2,by rw [HAe.out],rfl,rfl,by omega,by omega,by omega,hnx,Hd (by rw [HL5.out];simp),by omega,HA2,HSt,Hd (by rw [List.append_assoc];exact HX2.out)⟩
     case measure=>simp [lenN];omega
  ·have hme:=HX.out
   rw [mergeS_few ah (2*i) _ (by have:=HM.out;omega)] at hme
   have HMe:=Hd hme
   have hlt2:¬ 2≤(m1:Int):=by omega
   clear HA1 hme HX
   obtain ⟨d,hd⟩:∃ d:Nat,nx+d=n:=⟨n - nx,by omega⟩
   have hsp:(nx < n∧∃ gl ofl,lo=some ⟨gl,ofl,none⟩)∨nx=n:=by
    by_cases h:nx < n
    ·obtain ⟨gl,ofl,e,_⟩:=HL.out nx (by have:=HN.out;omega)
     exact .inl ⟨h,gl,ofl,e⟩
    ·exact .inr (by omega)
   rcases hsp with ⟨hnn,gl,ofl,rfl⟩ | hnn
   ·have hne:¬ lc=nx:=by omega
    go_wp2
    go_loopw [64,5,9] (fun v64 v5 _v9 wr=>∃ (j:Nat) (rs:List (Int × Bool)) (a5:Option Addr) (l5 c5:Nat),v64 = .int .i64 (j:Int)∧v5 = .slice a5 l5 c5∧j≤d∧Hid (l5=rs.length)∧l5≤nx+i+j∧Hid (RowSt w wr a5 c5 rs)∧Hid (rs++((lv.map (·.2)).drop (nx+j)).map (fun z=>(z,false))=R)) (fun v64 _ _ _=>d - (intOf v64).toNat)
    case atStart=>exact ⟨0,rs,a5,l5,c5,rfl,rfl,by omega,HL5,by omega,HS,HMe⟩
    case round=>
     clear HMe HS HL5 hl5
     obtain ⟨j,rs,a5,l5,c5,rfl,rfl,hj,HL5,hl5,HS,HX⟩:=hrel
     by_cases hlt:(j:Int) < d
     ·obtain ⟨gl',ofl',he,_,hp0,hz0'⟩:=HL.out (nx+j) (by have:=HN.out;omega)
      cases he
      have hpc:=HS.out.kept.cell hp0
      have hzc:=HS.out.kept.cell hz0'
      have hst:=HX.out
      rw [lf_step lv (nx+j) (by have:=HN.out;omega)] at hst
      obtain ⟨p,hp⟩:∃ p,p=(lv.getD (nx+j) (0,0)).1:=⟨_,rfl⟩
      obtain ⟨z,hz⟩:∃ z,z=(lv.getD (nx+j) (0,0)).2:=⟨_,rfl⟩
      rw [← hz] at hzc hst
      rw [← hp] at hpc
      rw [show ofl+(nx+j)*2=ofl+nx*2+j*2 by omega] at hpc hzc
      clear hz hz0' HX hp hp0
      have hrow:=HS.out.own
      unfold OwnIt at hrow
      rw [← HL5.out] at hrow
      have HSa:=Hd (HS.out.alloc (.cells #[.int .i64 p,.int .i64 z] 226))
      have hrow2:=(hrow.alloc (.cells #[.int .i64 p,.int .i64 z] 226)).alloc (.cells #[.int .i64 z,.bool false] 244)
      have hnw:=news_it (wr.alloc (.cells #[.int .i64 p,.int .i64 z] 226)) z false
      have hsz:(wr.alloc (.cells #[.int .i64 p,.int .i64 z] 226)).heap.size=wr.heap.size+1:=by simp
      have HSz:=Hd hsz
      rw [hsz] at hnw
      clear hsz
      have HRow:=Hd hrow2;have HNw:=Hd hnw;have HX2:=Hd hst
      clear hrow hrow2 hnw hst
      go_wp2_with (at_builtin;refine wpList_app _ rfl _ _ 241 rfl 244 i0 (.agg #[.int .i64 0,.bool false]) 2 16 Tryz.underlying241 hi hz0 hz1 hz2 rfl (by decide) _ l5 (icells rs) rfl HRow.out ⟨wr.heap.size+1,0,none⟩ 1 1 [.int .i64 z,.bool false] rfl rfl HNw.out ?d2 ?d3 ?d4 ?_)
      case d2=>first | rfl | (intro u hu;simp at hu;rcases hu with rfl | rfl <;> rfl) | (simp [Value.oneCell'])
      case d3=>unfold maxLen;omega
      case d4=>omega
      intro v' w2 hown' hgrow hnew
      obtain ⟨a2,c2,rfl⟩:=own_shape2 hown'
      have HSt:=Hd (HSa.out.app HL5.out hown' hgrow (by rw [HSz.out];exact hnew))
      clear hown' hgrow hnew
      go_wp2
      go_roundw
      case rel=>exact ⟨j+1,rs++[(z,false)],a2,l5+1,c2,by go_num,rfl,by omega,Hd (by rw [HL5.out];simp),by omega,HSt,Hd (by rw [List.append_assoc];exact HX2.out)⟩
      case measure=>simp [intOf];omega
     ·have hst:=HX.out
      rw [lf_end lv (nx+j) (by have:=HN.out;omega),List.map_nil,List.append_nil] at hst
      subst hst
      go_wp2
      go_ret
      exact ⟨a5,c5,by rw [HL5.out];rfl,HS.out⟩
   ·subst hnn
    have hst:=HMe.out
    rw [lf_end lv _ (by have:=HN.out;omega),List.map_nil,List.append_nil] at hst
    subst hst
    have hge:¬ 2≤(m1:Int):=by omega
    go_wp2
    all_goals
     go_loopw [64,5,9] (fun v64 v5 _v9 wr=>v64 = .int .i64 0∧v5 = .slice a5 l5 c5∧Hid (RowSt w wr a5 c5 rs)) (fun _ _ _ _=>0)
     case atStart=>exact ⟨rfl,rfl,HS⟩
     case round=>
      clear HS
      obtain ⟨rfl,rfl,HS⟩:=hrel
      go_wp2
      go_ret
      exact ⟨a5,c5,by rw [HL5.out];rfl,HS.out⟩
def rowS (ls:List Int):Nat→List (Int × Bool)
 | 0=>mergeS [] ls
 | i+1=>mergeS (rowS ls i) ls
theorem rowS_len0 (ls:List Int):(rowS ls 0).length=ls.length:=by simp [rowS,mergeS_len]
theorem rowS_lenS (ls:List Int)(i:Nat):(rowS ls (i+1)).length=ls.length+(rowS ls i).length / 2:=by simp [rowS,mergeS_len]
theorem rowS_le (ls:List Int):∀ i,(rowS ls i).length≤2*ls.length
 | 0=>by rw [rowS_len0];omega
 | i+1=>by rw [rowS_lenS];have:=rowS_le ls i;omega
def halves (n:Nat):Nat→Nat
 | 0=>n
 | i+1=>(halves n i+1) / 2
theorem halves_le (n:Nat):∀ i k,n≤k*2 ^ i→halves n i≤k
 | 0,k,h=>by simpa [halves] using h
 | i+1,k,h=>by
  have:=halves_le n i (2*k) (by rw [Nat.pow_succ] at h;rw [Nat.mul_comm 2 k,Nat.mul_assoc,Nat.mul_comm 2];exact h)
  simp only [halves]
  omega
theorem rowS_ge (ls:List Int):∀ i,2*ls.length≤(rowS ls i).length+halves ls.length i
 | 0=>by rw [rowS_len0];simp [halves];omega
 | i+1=>by rw [rowS_lenS];have:=rowS_ge ls i;simp only [halves];omega
theorem rowS_room (ls:List Int)(l:Nat)(hl:1≤l)(h:ls.length≤2 ^ l):2*ls.length - 2≤(rowS ls (l - 1)).length:=by
 have h1:=rowS_ge ls (l - 1)
 have h2:=halves_le ls.length (l - 1) 2 (by
  have:2*2 ^ (l - 1)=2 ^ l:=by
   rw [Nat.mul_comm,← Nat.pow_succ];congr 1;omega
  omega)
 omega
def packedN (rs:List (Int × Bool)):Nat:=rs.countP (fun p=>p.2)
def leafN (rs:List (Int × Bool)):Nat:=rs.countP (fun p => !p.2)
theorem packed_leaf (rs:List (Int × Bool)):packedN rs+leafN rs=rs.length:=by
 induction rs with
 | nil=>rfl
 | cons p r ih=>
  unfold packedN leafN at ih ⊢
  simp only [List.countP_cons,List.length_cons]
  cases p.2 <;> simp <;> omega
theorem leaf_map (ls:List Int):leafN (ls.map fun z=>(z,false))=ls.length:=by
 induction ls with
 | nil=>rfl
 | cons z r ih=>unfold leafN at ih ⊢;simp only [List.map_cons,List.countP_cons,List.length_cons,ih];simp
theorem leaf_mergeW (w:Int)(f:List Int→List (Int × Bool))(hf:∀ l,leafN (f l)=l.length):∀ l,leafN (mergeW w f l)=l.length
 | []=>by have:=hf [];unfold leafN at this ⊢;simp only [mergeW,List.countP_cons,this];simp
 | z :: r=>by
  unfold mergeW
  split
  ·have:=leaf_mergeW w f hf r;unfold leafN at this ⊢;simp only [List.countP_cons,List.length_cons,this];simp
  ·have:=hf (z :: r);unfold leafN at this ⊢;simp only [List.countP_cons,this];simp
theorem leaf_mergeS:∀ (ah:List (Int × Bool)) (l:List Int),leafN (mergeS ah l)=l.length
 | [],l=>by simpa [mergeS] using leaf_map l
 | [a],l=>by simpa [mergeS] using leaf_map l
 | a :: b :: r,l=>by simp only [mergeS];exact leaf_mergeW _ _ (leaf_mergeS r) l
theorem leaf_take (rs:List (Int × Bool))(k:Nat):leafN (rs.take k)≤leafN rs:=by
 have:rs=rs.take k++rs.drop k:=(List.take_append_drop k rs).symm
 unfold leafN
 conv=>rhs;rw [this,List.countP_append]
 omega
theorem packed_take (rs:List (Int × Bool))(k:Nat):packedN (rs.take k)≤packedN rs:=by
 have:rs=rs.take k++rs.drop k:=(List.take_append_drop k rs).symm
 unfold packedN
 conv=>rhs;rw [this,List.countP_append]
 omega
theorem packed_mergeS (ah:List (Int × Bool))(l:List Int):packedN (mergeS ah l)=ah.length / 2:=by
 have h1:=packed_leaf (mergeS ah l)
 rw [leaf_mergeS,mergeS_len] at h1
 omega
theorem leafs_row (ls:List Int)(i:Nat):leafN (rowS ls i)=ls.length:=by cases i <;> exact leaf_mergeS _ _
theorem chosen_ok (ls:List Int)(i k:Nat)(hk:k≤(rowS ls i).length):
  k - packedN ((rowS ls i).take k)≤ls.length∧packedN ((rowS ls i).take k)≤k∧(i=0→packedN ((rowS ls i).take k)=0)∧(∀ j,i=j+1→2*packedN ((rowS ls i).take k)≤(rowS ls j).length):=by
 have h1:=packed_leaf ((rowS ls i).take k)
 rw [List.length_take,Nat.min_eq_left hk] at h1
 have h2:=leaf_take (rowS ls i) k
 rw [leafs_row] at h2
 have h3:=packed_take (rowS ls i) k
 refine ⟨by omega,by omega,?_,?_⟩
 ·rintro rfl
  have:packedN (rowS ls 0)=0:=by unfold rowS;rw [packed_mergeS];rfl
  omega
 ·rintro j rfl
  have:packedN (rowS ls (j+1))=(rowS ls j).length / 2:=by unfold rowS;rw [packed_mergeS];cases j <;> rfl
  omega
theorem small_mergeW {m:Int}(w:Int)(hw:0≤w∧w≤m)(hm:1048576≤m)(f:List Int→List (Int × Bool))(hf:∀ l,(∀ z∈l,0≤z∧z≤1048576)→SmallIt m (f l)):∀ l,(∀ z∈l,0≤z∧z≤1048576)→SmallIt m (mergeW w f l)
 | [],h=>by
  intro p hp
  rcases List.mem_cons.1 hp with rfl | hp
  ·exact hw
  ·exact hf [] h p hp
 | z :: r,h=>by
  unfold mergeW
  have hz:=h z List.mem_cons_self
  have hr:∀ z∈r,0≤z∧z≤1048576:=fun y hy=>h y (List.mem_cons_of_mem _ hy)
  split
  ·intro p hp
   rcases List.mem_cons.1 hp with rfl | hp
   ·exact ⟨hz.1,by omega⟩
   ·exact small_mergeW w hw hm f hf r hr p hp
  ·intro p hp
   rcases List.mem_cons.1 hp with rfl | hp
   ·exact hw
   ·exact hf _ h p hp
theorem small_mergeS {m:Int}(hm:1048576≤2*m):∀ (ah:List (Int × Bool)) (l:List Int),SmallIt m ah→(∀ z∈l,0≤z∧z≤1048576)→SmallIt (2*m) (mergeS ah l)
 | [],l,_,hl=>by
  intro p hp
  obtain ⟨z,hz,rfl⟩:=List.mem_map.1 (show p∈l.map fun z=>(z,false) by simpa [mergeS] using hp)
  have:=hl z hz
  exact ⟨this.1,by omega⟩
 | [a],l,_,hl=>by
  intro p hp
  obtain ⟨z,hz,rfl⟩:=List.mem_map.1 (show p∈l.map fun z=>(z,false) by simpa [mergeS] using hp)
  have:=hl z hz
  exact ⟨this.1,by omega⟩
 | a :: b :: r,l,ha,hl=>by
  have h1:=ha a List.mem_cons_self
  have h2:=ha b (List.mem_cons_of_mem _ List.mem_cons_self)
  simp only [mergeS]
  exact small_mergeW _ ⟨by omega,by omega⟩ hm _ (fun l' hl'=>small_mergeS hm r l' (fun p hp=>ha p (List.mem_cons_of_mem _ (List.mem_cons_of_mem _ hp))) hl') l hl
theorem small_row (ls:List Int)(hl:∀ z∈ls,0≤z∧z≤1048576):∀ i,SmallIt (1048576*2 ^ i) (rowS ls i)
 | 0=>by
  intro p hp
  obtain ⟨z,hz,rfl⟩:=List.mem_map.1 (show p∈ls.map fun z=>(z,false) from hp)
  have:=hl z hz
  exact ⟨this.1,by show z≤1048576*2 ^ 0;rw [Int.pow_zero];omega⟩
 | i+1=>by
  have h:=small_row ls hl i
  have h1:(1:Int)≤2 ^ i:=by
   have:1≤2 ^ i:=Nat.one_le_two_pow
   have h2:((1:Nat):Int)≤((2 ^ i:Nat):Int):=Int.ofNat_le.2 this
   rwa [Int.natCast_pow] at h2
  have:=small_mergeS (m:=1048576*2 ^ i) (by omega) (rowS ls i) ls h hl
  unfold rowS
  rw [Int.pow_succ,show (1048576:Int)*(2 ^ i*2)=2*(1048576*2 ^ i) by omega]
  exact this
theorem small_row50 (ls:List Int)(hl:∀ z∈ls,0≤z∧z≤1048576)(i:Nat)(hi:i≤30):SmallIt 1125899906842624 (rowS ls i):=by
 intro p hp
 have h:=small_row ls hl i p hp
 have h2:2 ^ i≤2 ^ 30:=Nat.pow_le_pow_right (by decide) hi
 have h3:(2:Int) ^ i≤1073741824:=by
  have h4:((2 ^ i:Nat):Int)≤((1073741824:Nat):Int):=Int.ofNat_le.2 h2
  rwa [Int.natCast_pow] at h4
 exact ⟨h.1,by omega⟩
def bump (zs:List Int)(ps:List Nat):List Int:=ps.foldl (fun z p=>z.set p (z.getD p 0+1)) zs
theorem bump_len (ps:List Nat):∀ zs,(bump zs ps).length=zs.length:=by
 induction ps with
 | nil=>intro zs;rfl
 | cons p r ih=>intro zs;simp only [bump,List.foldl_cons] at ih ⊢;rw [ih];simp
theorem bump_snoc (zs:List Int)(ps:List Nat)(p:Nat):bump zs (ps++[p])=(bump zs ps).set p ((bump zs ps).getD p 0+1):=by simp [bump,List.foldl_append]
def addL (ls:List Int)(ps:List Nat):Nat→Nat→List Int→List Int
 | 0,_,zs=>zs
 | i+1,k,zs=>addL ls ps i (2*packedN ((rowS ls i).take k)) (bump zs (ps.take (k - packedN ((rowS ls i).take k))))
abbrev It:=Int × Bool
def pairsL:List It→List Int
 | a :: b :: r=>(a.1+b.1) :: pairsL r
 | _=>[]
def mrg:List Int→List Int→List It
 | [],ls=>ls.map fun z=>(z,false)
 | w :: P,ls=>mergeW w (mrg P) ls
theorem mergeS_mrg:∀ (ah:List It) (ls:List Int),mergeS ah ls=mrg (pairsL ah) ls
 | [],ls=>rfl
 | [a],ls=>rfl
 | a :: b :: r,ls=>by
  have e:mergeS r=mrg (pairsL r):=funext (mergeS_mrg r)
  show mergeW (a.1+b.1) (mergeS r) ls=mergeW (a.1+b.1) (mrg (pairsL r)) ls
  rw [e]
theorem mrg_nil_cons (z:Int)(r:List Int):mrg [] (z :: r)=(z,false) :: mrg [] r:=rfl
theorem mrg_cons_nil (w:Int)(P:List Int):mrg (w :: P) []=(w,true) :: mrg P []:=rfl
theorem mrg_le (w z:Int)(P r:List Int)(h:z≤w):mrg (w :: P) (z :: r)=(z,false) :: mrg (w :: P) r:=by
 show mergeW w (mrg P) (z :: r)=(z,false) :: mergeW w (mrg P) r
 simp [mergeW,h]
theorem mrg_gt (w z:Int)(P r:List Int)(h:¬ z≤w):mrg (w :: P) (z :: r)=(w,true) :: mrg P (z :: r):=by
 show mergeW w (mrg P) (z :: r)=(w,true) :: mrg P (z :: r)
 simp [mergeW,h]
def sumW (T:List It):Int:=(T.map (·.1)).sum
def tk (l:List Int)(k:Nat):Int:=(l.take k).sum
theorem sumW_cons (a:It)(T:List It):sumW (a :: T)=a.1+sumW T:=by simp [sumW]
theorem tk_zero (l:List Int):tk l 0=0:=by simp [tk]
theorem tk_nil (k:Nat):tk [] k=0:=by simp [tk]
theorem tk_cons (a:Int)(l:List Int)(k:Nat):tk (a :: l) (k+1)=a+tk l k:=by simp [tk]
theorem leafN_cons (a:It)(T:List It):leafN (a :: T)=leafN T+(if a.2 then 0 else 1):=by
 unfold leafN;rw [List.countP_cons];cases a.2 <;> simp
theorem packedN_cons (a:It)(T:List It):packedN (a :: T)=packedN T+(if a.2 then 1 else 0):=by
 unfold packedN;rw [List.countP_cons]
def Srd (l:List Int):Prop:=l.Pairwise (· ≤ ·)
theorem mrg_sum:∀ (P ls:List Int) (k:Nat),sumW ((mrg P ls).take k)=tk ls (leafN ((mrg P ls).take k))+tk P (packedN ((mrg P ls).take k)):=by
 intro P
 induction P with
 | nil=>
  intro ls
  induction ls with
  | nil=>intro k;simp [mrg,sumW,tk_nil]
  | cons z r ih=>
   intro k
   cases k with
   | zero=>simp [sumW,leafN,packedN,tk_zero]
   | succ k=>
    rw [mrg_nil_cons,List.take_succ_cons,sumW_cons,leafN_cons,packedN_cons,ih k]
    simp [tk_cons,tk_nil]
 | cons w P ihP=>
  intro ls
  induction ls with
  | nil=>
   intro k
   cases k with
   | zero=>simp [sumW,leafN,packedN,tk_zero]
   | succ k=>
    rw [mrg_cons_nil,List.take_succ_cons,sumW_cons,leafN_cons,packedN_cons,ihP [] k]
    simp [tk_cons,tk_nil]
  | cons z r ih=>
   intro k
   cases k with
   | zero=>simp [sumW,leafN,packedN,tk_zero]
   | succ k=>
    by_cases h:z≤w
    ·rw [mrg_le _ _ _ _ h,List.take_succ_cons,sumW_cons,leafN_cons,packedN_cons,ih k]
     simp [tk_cons];omega
    ·rw [mrg_gt _ _ _ _ h,List.take_succ_cons,sumW_cons,leafN_cons,packedN_cons,ihP (z :: r) k]
     simp [tk_cons];omega
theorem pairs_sum:∀ (r:List It) (q:Nat),2*q≤r.length→sumW (r.take (2*q))=tk (pairsL r) q
 | r,0,_=>by simp [sumW,tk]
 | [],q+1,h=>by simp at h; 
 | [a],q+1,h=>by simp at h;omega
 | a :: b :: r,q+1,h=>by
  have:=pairs_sum r q (by simp only [List.length_cons] at h;omega)
  rw [show 2*(q+1)=2*q+1+1 by omega,List.take_succ_cons,List.take_succ_cons,sumW_cons,sumW_cons,this]
  simp only [pairsL,tk_cons];omega
theorem row_zero (ls:List Int):rowS ls 0=mrg [] ls:=rfl
theorem row_succ (ls:List Int)(i:Nat):rowS ls (i+1)=mrg (pairsL (rowS ls i)) ls:=mergeS_mrg _ _
def wN (x:Nat→Nat):Nat→Nat
 | 0=>0
 | i+1=>wN x i+x i*2 ^ i
def cN (ls:List Int)(x:Nat→Nat):Nat→Int
 | 0=>0
 | i+1=>cN ls x i+tk ls (x i)
end Go.Proofs.YtfmjfgmbjdhogaaGreatDoor
