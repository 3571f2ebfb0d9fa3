import Derived.Test.YtfmjfgmbjdhogaaGreatDoorMb12
import Derived.Laws.CopyOwn
import Derived.Deep.RegionLaw
import Derived.OwnWalk
set_option linter.unusedVariables false
set_option linter.unusedSimpArgs false
set_option maxRecDepth 20000
set_option maxHeartbeats 8000000
namespace Go.Proofs.YtfmjfgmbjdhogaaGreatDoor
open Go.RowKit
inductive RowR (code bs:List Int) (N:Nat):Nat→List Int→Nat→List Int→Int→Prop
 | done {p:Nat} {l:List Int}:N≤l.length→RowR code bs N p l p l 0
 | fail {p T q:Nat} {l:List Int} {s f:Int}:l.length < N→min3 15 (8*bs.length - p)=T→ReadS code T (bitsAt bs p T) p s f q→f≠0→RowR code bs N p l p [] f
 | short {p T q:Nat} {l:List Int} {s:Int}:l.length < N→min3 15 (8*bs.length - p)=T→ReadS code T (bitsAt bs p T) p s 0 q→8*bs.length < q+spanB s→RowR code bs N p l p [] 2
 | bad {p T q:Nat} {l:List Int} {s:Int}:l.length < N→min3 15 (8*bs.length - p)=T→ReadS code T (bitsAt bs p T) p s 0 q→q+spanB s≤8*bs.length→
   ¬ (okRun l s (bitsAt bs q (spanB s):Nat)∧((moreL l s (bitsAt bs q (spanB s):Nat)).length:Int)≤N)→RowR code bs N p l p [] 6
 | step {p T q p':Nat} {l l':List Int} {s e:Int}:l.length < N→min3 15 (8*bs.length - p)=T→ReadS code T (bitsAt bs p T) p s 0 q→q+spanB s≤8*bs.length→
   okRun l s (bitsAt bs q (spanB s):Nat)→((moreL l s (bitsAt bs q (spanB s):Nat)).length:Int)≤N→RowR code bs N (q+spanB s) (moreL l s (bitsAt bs q (spanB s):Nat)) p' l' e→RowR code bs N p l p' l' e
theorem RowR.det {code bs:List Int}{N:Nat}(hl:code.length≤320)(hs:Small 15 code){p:Nat}{l:List Int}{p1 p2:Nat}{l1 l2:List Int}{e1 e2:Int}(h1:RowR code bs N p l p1 l1 e1)(h2:RowR code bs N p l p2 l2 e2):p1=p2∧l1=l2∧e1=e2:=by
 induction h1 with
 | done ha=>
  cases h2 with
  | done hb=>exact ⟨rfl,rfl,rfl⟩
  | fail hb=>omega
  | short hb=>omega
  | bad hb=>omega
  | step hb=>omega
 | fail ha hT hR hf=>
  cases h2 with
  | done hb=>omega
  | fail hb hT2 hR2 hf2=>
   rw [hT] at hT2;cases (Int.ofNat.inj hT2)
   obtain ⟨_,e,_⟩:=read_det code hl hs _ _ _ _ _ _ _ _ _ hR hR2
   exact ⟨rfl,rfl,e⟩
  | short hb hT2 hR2=>
   rw [hT] at hT2;cases (Int.ofNat.inj hT2)
   obtain ⟨_,e,_⟩:=read_det code hl hs _ _ _ _ _ _ _ _ _ hR hR2
   exact absurd e hf
  | bad hb hT2 hR2=>
   rw [hT] at hT2;cases (Int.ofNat.inj hT2)
   obtain ⟨_,e,_⟩:=read_det code hl hs _ _ _ _ _ _ _ _ _ hR hR2
   exact absurd e hf
  | step hb hT2 hR2=>
   rw [hT] at hT2;cases (Int.ofNat.inj hT2)
   obtain ⟨_,e,_⟩:=read_det code hl hs _ _ _ _ _ _ _ _ _ hR hR2
   exact absurd e hf
 | short ha hT hR hq=>
  cases h2 with
  | done hb=>omega
  | fail hb hT2 hR2 hf2=>
   rw [hT] at hT2;cases (Int.ofNat.inj hT2)
   obtain ⟨_,e,_⟩:=read_det code hl hs _ _ _ _ _ _ _ _ _ hR hR2
   exact absurd e.symm hf2
  | short hb hT2 hR2=>exact ⟨rfl,rfl,rfl⟩
  | bad hb hT2 hR2 hq2=>
   rw [hT] at hT2;cases (Int.ofNat.inj hT2)
   obtain ⟨rfl,_,rfl⟩:=read_det code hl hs _ _ _ _ _ _ _ _ _ hR hR2
   omega
  | step hb hT2 hR2 hq2=>
   rw [hT] at hT2;cases (Int.ofNat.inj hT2)
   obtain ⟨rfl,_,rfl⟩:=read_det code hl hs _ _ _ _ _ _ _ _ _ hR hR2
   omega
 | bad ha hT hR hq hno=>
  cases h2 with
  | done hb=>omega
  | fail hb hT2 hR2 hf2=>
   rw [hT] at hT2;cases (Int.ofNat.inj hT2)
   obtain ⟨_,e,_⟩:=read_det code hl hs _ _ _ _ _ _ _ _ _ hR hR2
   exact absurd e.symm hf2
  | short hb hT2 hR2 hq2=>
   rw [hT] at hT2;cases (Int.ofNat.inj hT2)
   obtain ⟨rfl,_,rfl⟩:=read_det code hl hs _ _ _ _ _ _ _ _ _ hR hR2
   omega
  | bad hb hT2 hR2 hq2=>exact ⟨rfl,rfl,rfl⟩
  | step hb hT2 hR2 hq2 hok hfit=>
   rw [hT] at hT2;cases (Int.ofNat.inj hT2)
   obtain ⟨rfl,_,rfl⟩:=read_det code hl hs _ _ _ _ _ _ _ _ _ hR hR2
   exact absurd ⟨hok,hfit⟩ hno
 | step ha hT hR hq hok hfit hrest ih=>
  cases h2 with
  | done hb=>omega
  | fail hb hT2 hR2 hf2=>
   rw [hT] at hT2;cases (Int.ofNat.inj hT2)
   obtain ⟨_,e,_⟩:=read_det code hl hs _ _ _ _ _ _ _ _ _ hR hR2
   exact absurd e.symm hf2
  | short hb hT2 hR2 hq2=>
   rw [hT] at hT2;cases (Int.ofNat.inj hT2)
   obtain ⟨rfl,_,rfl⟩:=read_det code hl hs _ _ _ _ _ _ _ _ _ hR hR2
   omega
  | bad hb hT2 hR2 hq2 hno=>
   rw [hT] at hT2;cases (Int.ofNat.inj hT2)
   obtain ⟨rfl,_,rfl⟩:=read_det code hl hs _ _ _ _ _ _ _ _ _ hR hR2
   exact absurd ⟨hok,hfit⟩ hno
  | step hb hT2 hR2 hq2 hok2 hfit2 hrest2=>
   rw [hT] at hT2;cases (Int.ofNat.inj hT2)
   obtain ⟨rfl,_,rfl⟩:=read_det code hl hs _ _ _ _ _ _ _ _ _ hR hR2
   exact ih hrest2
theorem RowR.ok {code bs:List Int}{N:Nat}{p:Nat}{l:List Int}{p1:Nat}{l1:List Int}{e1:Int}(h:RowR code bs N p l p1 l1 e1)(h0:e1=0)(hl:(l.length:Int)≤N)(hs:Small 15 l)(hp:p≤8*bs.length):l1.length=N∧Small 15 l1∧p1≤8*bs.length:=by
 induction h with
 | done ha=>exact ⟨by omega,hs,hp⟩
 | fail ha hT hR hf=>exact absurd h0 hf
 | short=>exact absurd h0 (by decide)
 | bad=>exact absurd h0 (by decide)
 | step ha hT hR hq hok hfit hrest ih=>
  refine ih h0 hfit ?_ hq
  intro z hz
  unfold moreL at hz
  rcases List.mem_append.1 hz with h | h
  ·exact hs z h
  ·rw [List.eq_of_mem_replicate h]
   exact valS_lt _ hs _ ⟨hok.1,hok.2.1⟩
theorem RowR.err {code bs:List Int}{N:Nat}{p:Nat}{l:List Int}{p1:Nat}{l1:List Int}{e1:Int}(h:RowR code bs N p l p1 l1 e1)(h0:e1≠0):l1=[]:=by
 induction h with
 | done ha=>exact absurd rfl h0
 | fail ha hT hR hf=>rfl
 | short=>rfl
 | bad=>rfl
 | step ha hT hR hq hok hfit hrest ih=>exact ih h0
def ordL:List Int:=[16,17,18,0,8,7,9,6,10,5,11,4,12,3,13,2,14,1,15]
def codeT (bs:List Int)(p:Nat):Nat→List Int
 | 0=>List.replicate 19 0
 | n+1=>(codeT bs p n).set (ordL.getD n 0).toNat ((bitsAt bs (p+3*n) 3:Nat):Int)
theorem codeT_len (bs:List Int)(p:Nat):∀ n,(codeT bs p n).length=19
 | 0=>by simp [codeT]
 | n+1=>by rw [codeT,List.length_set,codeT_len bs p n]
theorem bitsAt_lt' (bs:List Int)(p k:Nat):bitsAt bs p k < 2 ^ k:=Nat.mod_lt _ (Nat.two_pow_pos k)
theorem codeT_small (bs:List Int)(p:Nat):∀ n,Small 7 (codeT bs p n)
 | 0=>fun z hz=>by unfold codeT at hz;rw [List.eq_of_mem_replicate hz];decide
 | n+1=>fun z hz=>by
  rw [codeT] at hz
  rcases List.mem_or_eq_of_mem_set hz with h | h
  ·exact codeT_small bs p n z h
  ·have:=bitsAt_lt' bs (p+3*n) 3
   have e:(2:Nat) ^ 3=8:=rfl
   rw [h];omega
theorem small7_15 {Z:List Int}(h:Small 7 Z):Small 15 Z:=fun z hz=>by have:=h z hz;omega
def HeadR (bs:List Int)(p:Nat)(lit dist:List Int)(e:Int)(q:Nat):Prop:=
 if 8*bs.length < p+14 then lit=[]∧dist=[]∧e=2
 else if 29 < bitsAt bs p 5∨29 < bitsAt bs (p+5) 5 then lit=[]∧dist=[]∧e=6
 else if 8*bs.length < p+14+3*(bitsAt bs (p+10) 4+4) then lit=[]∧dist=[]∧e=2
 else if fullB (codeT bs (p+14) (bitsAt bs (p+10) 4+4))=false then lit=[]∧dist=[]∧e=6
 else ∃ (row:List Int) (q':Nat) (f:Int),RowR (codeT bs (p+14) (bitsAt bs (p+10) 4+4)) bs ((bitsAt bs p 5+257)+(bitsAt bs (p+5) 5+1)) (p+14+3*(bitsAt bs (p+10) 4+4)) [] q' row f∧
  if f=0 then if mayB (row.take (bitsAt bs p 5+257)) (row.drop (bitsAt bs p 5+257))=true then lit=row.take (bitsAt bs p 5+257)∧dist=row.drop (bitsAt bs p 5+257)∧e=0∧q=q' else lit=[]∧dist=[]∧e=6
  else lit=[]∧dist=[]∧e=f
theorem HeadR.det {bs:List Int}{p:Nat}{lit dist lit2 dist2:List Int}{e e2:Int}{q q2:Nat}(h:HeadR bs p lit dist e q)(h2:HeadR bs p lit2 dist2 e2 q2):lit=lit2∧dist=dist2∧e=e2∧(e=0→q=q2):=by
 unfold HeadR at h h2
 split at h
 ·rename_i c
  rw [if_pos c] at h2
  obtain ⟨rfl,rfl,rfl⟩:=h;obtain ⟨rfl,rfl,rfl⟩:=h2
  exact ⟨rfl,rfl,rfl,fun h=>absurd h (by decide)⟩
 ·rename_i c
  rw [if_neg c] at h2
  split at h
  ·rename_i c
   rw [if_pos c] at h2
   obtain ⟨rfl,rfl,rfl⟩:=h;obtain ⟨rfl,rfl,rfl⟩:=h2
   exact ⟨rfl,rfl,rfl,fun h=>absurd h (by decide)⟩
  ·rename_i c
   rw [if_neg c] at h2
   split at h
   ·rename_i c
    rw [if_pos c] at h2
    obtain ⟨rfl,rfl,rfl⟩:=h;obtain ⟨rfl,rfl,rfl⟩:=h2
    exact ⟨rfl,rfl,rfl,fun h=>absurd h (by decide)⟩
   ·rename_i c
    rw [if_neg c] at h2
    split at h
    ·rename_i c
     rw [if_pos c] at h2
     obtain ⟨rfl,rfl,rfl⟩:=h;obtain ⟨rfl,rfl,rfl⟩:=h2
     exact ⟨rfl,rfl,rfl,fun h=>absurd h (by decide)⟩
    ·rename_i c
     rw [if_neg c] at h2
     obtain ⟨row,q',f,hr,h⟩:=h
     obtain ⟨row2,q2',f2,hr2,h2⟩:=h2
     obtain ⟨rfl,rfl,rfl⟩:=hr.det (by rw [codeT_len];omega) (small7_15 (codeT_small _ _ _)) hr2
     split at h
     ·rename_i c
      rw [if_pos c] at h2
      split at h
      ·rename_i c
       rw [if_pos c] at h2
       obtain ⟨rfl,rfl,rfl,rfl⟩:=h;obtain ⟨rfl,rfl,rfl,rfl⟩:=h2
       exact ⟨rfl,rfl,rfl,fun _=>rfl⟩
      ·rename_i c
       rw [if_neg c] at h2
       obtain ⟨rfl,rfl,rfl⟩:=h;obtain ⟨rfl,rfl,rfl⟩:=h2
       exact ⟨rfl,rfl,rfl,fun h=>absurd h (by decide)⟩
     ·rename_i c
      rw [if_neg c] at h2
      obtain ⟨rfl,rfl,rfl⟩:=h;obtain ⟨rfl,rfl,rfl⟩:=h2
      exact ⟨rfl,rfl,rfl,fun h=>absurd h c⟩
theorem counts14 (bs:List Int)(p:Nat):bitsAt bs p 14 % 32=bitsAt bs p 5∧bitsAt bs p 14 / 32 % 32=bitsAt bs (p+5) 5∧bitsAt bs p 14 / 1024=bitsAt bs (p+10) 4:=by
 unfold bitsAt
 have e5:(2:Nat) ^ (p+5)=2 ^ p*32:=by rw [Nat.pow_add]
 have e10:(2:Nat) ^ (p+10)=2 ^ p*1024:=by rw [Nat.pow_add]
 have a:(2:Nat) ^ 14=16384:=rfl
 have b:(2:Nat) ^ 5=32:=rfl
 have c:(2:Nat) ^ 4=16:=rfl
 rw [e5,e10,← Nat.div_div_eq_div_mul,← Nat.div_div_eq_div_mul,a,b,c]
 generalize num bs / 2 ^ p=x
 omega
theorem u64_mask32 (c:Nat)(hc:c≤1000):bits .and .u64 (c:Int) 4294967295=(c:Int):=by
 show IntKind.u64.wrap ((BitVec.ofInt 64 (c:Int) &&& BitVec.ofInt 64 4294967295).toNat:Int)=_
 have h1:(BitVec.ofInt 64 (c:Int)).toNat=c:=by rw [BitVec.toNat_ofInt];omega
 have h2:(BitVec.ofInt 64 4294967295).toNat=2 ^ 32 - 1:=by decide
 rw [BitVec.toNat_and,h1,h2,Nat.and_two_pow_sub_one_eq_mod,IntKind.wrap_u64]
 omega
theorem mul64_any (c:Nat)(w:World)(hc:c≤1000):Calls Tryz.prog 194 #[.int .u64 1,.int .u64 (c:Int)] w fun e w'=>e = .returned (.tuple #[.int .u64 0,.int .u64 (c:Int)])∧w=w':=by
 have e1:bits .and .u64 (1:Int) 4294967295=1:=by decide +kernel
 have e0:bits .and .u64 (0:Int) 4294967295=0:=by decide +kernel
 have e2:=u64_mask32 c hc
 have e3:(c:Int) / 4294967296=0:=by omega
 go_enter Tryz.func194,Tryz.ntmps194
 go_wp2
 go_ret2
 exact ⟨rfl,rfl⟩
theorem mul_any (c:Nat)(w:World)(hc:c≤1000):Calls Tryz.prog 191 #[.int .u64 1,.int .u64 (c:Int)] w fun e w'=>e = .returned (.tuple #[.int .u64 0,.int .u64 (c:Int)])∧w=w':=by
 have h:=mul64_any c w hc
 have H:=Hd h
 clear h
 go_enter Tryz.func191,Tryz.ntmps191
 go_wp2_with fail
 refine H.out.mono ?_
 rintro e w1 ⟨rfl,rfl⟩
 go_wp2
 go_ret2
 exact ⟨rfl,rfl⟩
def repC (v:Int)(N n:Nat):List Value:=List.replicate n (Value.int .i64 v)++List.replicate (N - n) (Value.int .i64 0)
theorem repC_len (v:Int)(N n:Nat)(h:n≤N):(repC v N n).length=N:=by simp [repC];omega
theorem repC_full (v:Int)(N:Nat):repC v N N=List.replicate N (Value.int .i64 v):=by simp [repC]
theorem repC_none (v:Int)(N:Nat):repC v N 0=List.replicate N (Value.int .i64 0):=by simp [repC]
theorem repC_at (v:Int)(N n j:Nat)(h:j < n):(repC v N n)[j]?=some (Value.int .i64 v):=by
 unfold repC
 rw [List.getElem?_append_left (by simpa using h),List.getElem?_replicate,if_pos h]
theorem rep_splice (v:Int)(N n k:Nat)(h3:n+k≤N):splice (repC v N n) n (List.replicate k (Value.int .i64 v))=repC v N (n+k):=by
 unfold splice repC
 rw [List.take_left' (by simp),List.length_replicate,← List.append_assoc,List.replicate_append_replicate]
 congr 1
 rw [List.drop_append,List.drop_of_length_le (by simp),List.nil_append,List.drop_replicate]
 congr 1
 simp
 omega
theorem repeat_any (g:Nat)(v:Int)(N:Nat)(w:World)(hc:w.cell? ⟨g,0,none⟩=some (.int .i64 v))(hN:1≤N∧N≤1000):
  Calls Tryz.prog 188 #[.slice (some ⟨g,0,none⟩) 1 1,.int .i64 (N:Int)] w fun e w'=>∃ G,e = .returned (.slice (some ⟨G,0,none⟩) N N)∧Hid (w'.heap[G]?=some (.cells (List.replicate N (Value.int .i64 v)).toArray 3 (0,0)))∧w.heap.size≤G∧Below w.heap.size w w':=by
 obtain ⟨i0,hi,hz0,hz1,hz2⟩:=info_parts infoI
 have HM:=Hd (mul_any N w hN.2)
 have hsz:(Tryz.prog.info? 3).map (·.size)=some 1:=by rw [hi];simp [hz1]
 go_enter Tryz.func188,Tryz.ntmps188
 go_wp2_with fail
 refine HM.out.mono ?_
 rintro e w1 ⟨rfl,rfl⟩
 have hN64:¬ (9223372036854775807:Int) < (N:Int):=by omega
 go_wp2_with (at_make;refine wpList_make_full _ rfl _ _ _ rfl 0 3 i0 (.int .i64 0) 1 Tryz.underlying30 hi hz0 hz1 .i64 .i64 _ _ N rfl rfl rfl rfl (by rw [hz2];omega) (by unfold maxLen;omega) (Nat.zero_le _) ?_)
 intro w2 hown hgrow
 obtain ⟨G,hG⟩:∃ G,G=w.heap.size:=⟨_,rfl⟩
 rw [← hG] at hown ⊢
 have hcells:w2.heap[G]?=some (.cells (repC v N 0).toArray 3 (0,0)):=by
  rcases hown.2 with ⟨hv,_⟩ | ⟨g',c',cur,hv,_,hg',h1,h2,h3,h4⟩
  ·simp at hv
  ·simp at hv
   obtain ⟨rfl,rfl⟩:=hv
   rw [hg']
   have e:cur=(List.replicate N (Value.int .i64 0)).toArray:=by
    apply Array.ext'
    rw [List.take_of_length_le (by simp;omega),toList_madeCells_one] at h4
    rw [h4]
   rw [e,repC_none]
 have hb2:Below w.heap.size w w2:=(Below.refl _ w).grown hgrow (Nat.le_refl _) (fun k e=>by cases e)
 have hcell2:w2.cell? ⟨g,0,none⟩=some (.int .i64 v):=(hb2.cell (show (⟨g,0,none⟩:Addr).block < w.heap.size from World.block_lt_of_cell? w _ hc)).trans hc
 have hGe:=Nat.le_of_eq hG.symm
 have HG:=Hd hG
 clear hown hgrow hG hc
 go_wp2_with (with_reducible refine wpList_copy_splice rfl (.tmp 31) (.tmp 32) 30 30 rfl 3 Tryz.underlying30 hsz _ _ _ _ _ _ rfl rfl G 0 _ 3 hcells [.int .i64 v] (show 1=min 1 N by omega) (fun _=>⟨rfl,_,rfl,?q1⟩) ?q2 ?q3 w.heap.size w hb2 hGe ?_)
 case q1=>intro j u hj;match j with
  | 0=>simp at hj;subst hj;rw [addr_add];exact hcell2
  | j+1=>simp at hj
 case q2=>rw [repC_len v N 0 (by omega)];simp;omega
 case q3=>intro u hu;simp at hu;subst hu;rfl
 intro w3 hg3 hb3
 have hg3':=hg3.out
 rw [show [Value.int .i64 v]=List.replicate 1 (Value.int .i64 v) from rfl,rep_splice v N 0 1 (by omega)] at hg3'
 have HG3:=Hd hg3'
 clear hg3 hg3' hcells hb2 hcell2
 go_wp2
 go_loopw [8] (fun v8 wr=>∃ n:Nat,v8 = .int .i64 (n:Int)∧1≤n∧n≤N∧Hid (wr.heap[G]?=some (.cells (repC v N n).toArray 3 (0,0)))∧Hid (Below w.heap.size w wr)) (fun v8 _=>N - (intOf v8).toNat)
 case atStart=>exact ⟨1,rfl,by omega,by omega,HG3,hb3⟩
 case round=>
  obtain ⟨n,rfl,hn1,hnN,HR,HBl⟩:=hrel
  by_cases hlt:(n:Int) < N
  ·obtain ⟨k,hk⟩:∃ k,k=min n (N - n):=⟨_,rfl⟩
   obtain ⟨m,hm⟩:∃ m,m=N - n:=⟨_,rfl⟩
   have hsub:(N:Int) - (n:Int)=(m:Int):=by omega
   have hHR:wr.drew.heap[G]?=some (.cells (repC v N n).toArray 3 (0,0)):=HR.out
   have hHB:Below w.heap.size w wr.drew:=HBl.out.drew
   have hne:¬ N=n:=by omega
   have hnN2:¬ (N:Int) < (n:Int):=by omega
   have hln:(List.replicate k (Value.int .i64 v)).length=k:=List.length_replicate
   have q1:(List.replicate k (Value.int .i64 v)).length=Nat.min n (N - n):=by rw [hln,hk]
   have q2:0 < (List.replicate k (Value.int .i64 v)).length→(some ⟨G,n,none⟩:Option Addr)=some ⟨G,n,none⟩∧∃ ad,(some ⟨G,0,none⟩:Option Addr)=some ad∧∀ j u,(List.replicate k (Value.int .i64 v))[j]?=some u→wr.drew.cell? (ad.add j)=some u:=fun _=>by
    refine ⟨rfl,_,rfl,fun j u hj=>?_⟩
    rw [List.getElem?_replicate] at hj
    split at hj
    ·rename_i hjk
     cases hj
     rw [addr_add,Nat.zero_add,cell_of_row _ G j _ _ (0,0) hHR]
     have:=repC_at v N n j (by have:=hk;omega)
     simpa using this
    ·cases hj
   have q3:n+(List.replicate k (Value.int .i64 v)).length≤(repC v N n).length:=by rw [hln,repC_len v N n hnN];omega
   have q4:∀ u∈List.replicate k (Value.int .i64 v),u.oneCell'=true:=fun u hu=>by rw [List.eq_of_mem_replicate hu];rfl
   have hsp:=rep_splice v N n k (by omega)
   have hrun:=run_copy_row (P:=Tryz.prog) wr.drew 30 30 3 3 G n (N - n) (N - n) ⟨G,0,none⟩ n N (repC v N n).toArray 3 (List.replicate k (Value.int .i64 v)) Tryz.underlying30 hsz hHR q1 (by obtain ⟨_,ad,e,h⟩:=q2 (by rw [hln];omega);cases e;exact h) (by simpa using q3) q4
   rw [hln] at hrun
   obtain ⟨w4,hw4⟩:∃ w4,w4=wr.drew.setRow G ((repC v N n).toArray.toList.take n++List.replicate k (Value.int .i64 v)++(repC v N n).toArray.toList.drop (n+k)).toArray:=⟨_,rfl⟩
   rw [← hw4] at hrun
   have hg4:w4.heap[G]?=some (.cells (repC v N (n+k)).toArray 3 (0,0)):=by
    rw [hw4,← hsp]
    unfold splice
    rw [hln,← List.append_assoc]
    exact setRow_heap _ G _ _ _ _ hHR
   have hb4:Below w.heap.size w w4:=by rw [hw4];exact below_setRow hHB hGe _
   have hkN:n+k≤N:=by omega
   have hk1:1≤k:=by omega
   have HG4:=Hd hg4;have HB4:=Hd hb4;have HK:=Hd hk
   clear hsp hln q1 q2 q3 q4 hHR hHB hk hm hw4 hg4 hb4 hsub HR HBl
   go_upto_region 9 with fail
   go_region
   clear hrun
   go_wp2
   go_roundw
   case rel=>exact ⟨n+k,by go_num,by omega,by have:=HK.out;omega,HG4.out,HB4.out⟩
   case measure=>have:=HK.out;simp [intOf];omega
  ·have hnN':n=N:=by omega
   subst hnN'
   have hr:=HR.out
   rw [repC_full] at hr
   have HR2:=Hd hr
   clear hr HR
   go_wp2
   go_ret
   exact ⟨G,rfl,HR2,hGe,HBl.out⟩
end Go.Proofs.YtfmjfgmbjdhogaaGreatDoor
