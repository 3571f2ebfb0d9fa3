import Derived.Test.YtfmjfgmbjdhogaaGreatDoorMb15
import Derived.OwnWalk
set_option linter.unusedVariables false
set_option linter.unusedSimpArgs false
set_option maxRecDepth 20000
set_option maxHeartbeats 8000000
namespace Go.Proofs.YtfmjfgmbjdhogaaGreatDoor
open Go.RowKit
theorem revN_lowH (n v:Nat):revN n v=revN n (v % 2 ^ n):=by
 apply Nat.eq_of_testBit_eq
 intro i
 rw [revN_bit,revN_bit,Nat.testBit_mod_two_pow]
 by_cases h:i < n
 ·have:n - 1 - i < n:=by omega
  simp [h,this]
 ·simp [h]
structure Puts (bs:List Int)(s:Nat)(ps:List (Nat × Nat)):Prop where
 num:∃ A,A < 2 ^ s∧num bs=A+putsN ps*2 ^ s
 lt:∀ y∈ps,y.1 < 2 ^ y.2
 len:s+wdN ps≤8*bs.length
theorem Puts.at {bs:List Int}{s:Nat}{pre rest:List (Nat × Nat)}{v k:Nat}(h:Puts bs s (pre++(v,k) :: rest))(T:Nat)(hT:k≤T):bitsAt bs (s+wdN pre) T % 2 ^ k=v:=by
 obtain ⟨A,hA,hn⟩:=h.num
 have hv:v < 2 ^ k:=h.lt (v,k) (by simp)
 have hd:=putsN_drop (pre++(v,k) :: rest) pre.length h.lt
 rw [List.take_left,List.drop_left,putsN] at hd
 unfold bitsAt
 rw [hn,Nat.pow_add,← Nat.div_div_eq_div_mul,Nat.add_mul_div_right _ _ (Nat.two_pow_pos s),Nat.div_eq_of_lt hA,Nat.zero_add,hd,Nat.mod_mod_of_dvd _ (Nat.pow_dvd_pow 2 hT),Nat.add_mul_mod_self_right,Nat.mod_eq_of_lt hv]
theorem Puts.is {bs:List Int}{s:Nat}{pre rest:List (Nat × Nat)}{v k:Nat}(h:Puts bs s (pre++(v,k) :: rest)):bitsAt bs (s+wdN pre) k=v:=by
 have:=h.at k (Nat.le_refl _)
 rw [Nat.mod_eq_of_lt (bitsAt_lt bs _ k)] at this
 exact this
theorem Puts.room {bs:List Int}{s:Nat}{pre rest:List (Nat × Nat)}(h:Puts bs s (pre++rest)):s+wdN pre+wdN rest≤8*bs.length:=by
 have:=h.len
 rw [wdN_append] at this
 omega
theorem Puts.read {bs:List Int}{s:Nat}{pre rest:List (Nat × Nat)}{L:List Int}{k:Nat}(h:Puts bs s (pre++wordZ L (k:Int) :: rest))(hs:Small 15 L)(hl:L.length≤320)(hok:refS L=0)(hkl:k < L.length)(h0:0 < L.getD k 0){T:Nat}
  (hT:min3 15 (8*bs.length - (s+wdN pre:Nat))=T):ReadS L T (bitsAt bs (s+wdN pre) T) (s+wdN pre) (k:Int) 0 (s+wdN pre+(L.getD k 0).toNat):=by
 have hbk:=hs.getD k hkl
 obtain ⟨n,hlk⟩:∃ n:Nat,L.getD k 0=(n:Int):=⟨(L.getD k 0).toNat,by omega⟩
 have hcb:=codeAt_bd L hl hs k hkl
 obtain ⟨ck,hck⟩:∃ ck:Nat,codeAt L k=(ck:Int):=⟨(codeAt L k).toNat,by omega⟩
 have hclt:=code_lt L hs hl hok k n hkl hlk (by omega)
 have hword:wordZ L (k:Int)=(revN n ck,n):=by unfold wordZ;rw [Int.toNat_natCast,hlk,hck,Int.toNat_natCast,Int.toNat_natCast]
 rw [hword] at h
 have hroom:=h.room
 rw [wdN] at hroom
 have hnT:n≤T:=by unfold min3 at hT;omega
 rw [hlk,Int.toNat_natCast]
 have hv:codeN (bitsAt bs (s+wdN pre) T) n=ck:=by
  rw [← revN_code,revN_lowH,h.at T hnT]
  exact revN_revN n ck (by omega)
 refine .inl ⟨n,k,by omega,hnT,hkl,hlk,by rw [hck,hv],?_,rfl,rfl,rfl⟩
 intro m hm1 hm2 j hj hzj e
 obtain ⟨d,rfl⟩:∃ d,n=m+d:=⟨n - m,by omega⟩
 have hne:j≠k:=by
  rintro rfl
  rw [hlk] at hzj;omega
 have hfr:=(code_free L hl hs j k hj hkl hne (by omega) d (by rw [hzj,hlk];omega)).1
 rw [hck,← hv,codeN_pre_int,← e] at hfr
 exact hfr rfl
def wordsR (code:List Int)(rs:List (Int × Int)):List (Nat × Nat):=rs.flatMap fun y=>[wordZ code y.1,(y.2.toNat,spanB y.1)]
theorem wordsR_cons (code:List Int)(y:Int × Int)(rs:List (Int × Int)):wordsR code (y :: rs)=wordZ code y.1 :: (y.2.toNat,spanB y.1) :: wordsR code rs:=by simp [wordsR]
theorem wordsR_snoc (code:List Int)(rs:List (Int × Int))(y:Int × Int):wordsR code (rs++[y])=wordsR code rs++[wordZ code y.1,(y.2.toNat,spanB y.1)]:=by simp [wordsR]
theorem Puts.row {bs:List Int}{s N:Nat}{code F:List Int}(hs:Small 15 code)(hl:code.length≤320)(hok:refS code=0)(hF:F.length=N):∀ (rs:List (Int × Int)) (l:List Int) (pre post:List (Nat × Nat)),Puts bs s (pre++(wordsR code rs++post))→
  (∀ y∈rs,HasC code y.1)→runAll (N:Int) l rs=some F→RowR code bs N (s+wdN pre) l (s+wdN (pre++wordsR code rs)) F 0
 | [],l,pre,post,h,hc,hr=>by
  rw [runAll] at hr
  cases hr
  simp only [wordsR,List.flatMap_nil,List.append_nil]
  exact .done (by omega)
 | (z,x) :: r,l,pre,post,h,hc,hr=>by
  rw [runAll] at hr
  split at hr
  ·rename_i hok2
   obtain ⟨ho,hN⟩:=hok2
   obtain ⟨k,rfl,hkl,h0⟩:=hc (z,x) (by simp)
   rw [wordsR_cons] at h ⊢
   rw [List.cons_append,List.cons_append] at h
   obtain ⟨T,hT⟩:∃ T:Nat,min3 15 (8*bs.length - (s+wdN pre:Nat))=T:=by
    have:=h.room
    obtain ⟨T,h,_⟩:=min3_at (8*bs.length) (s+wdN pre) (by omega)
    exact ⟨T,by simpa using h⟩
   have hrd:=h.read hs hl hok hkl h0 hT
   have hwz:(wordZ code (k:Int)).2=(code.getD k 0).toNat:=by unfold wordZ;rw [Int.toNat_natCast]
   have e1:pre++wordZ code (k:Int) :: (x.toNat,spanB (k:Int)) :: (wordsR code r++post)=(pre++[wordZ code (k:Int)])++(x.toNat,spanB (k:Int)) :: (wordsR code r++post):=by simp
   have e2:pre++wordZ code (k:Int) :: (x.toNat,spanB (k:Int)) :: (wordsR code r++post)=(pre++[wordZ code (k:Int),(x.toNat,spanB (k:Int))])++(wordsR code r++post):=by simp
   have e4:pre++wordZ code (k:Int) :: (x.toNat,spanB (k:Int)) :: wordsR code r=(pre++[wordZ code (k:Int),(x.toNat,spanB (k:Int))])++wordsR code r:=by simp
   have w1:s+wdN (pre++[wordZ code (k:Int)])=s+wdN pre+(code.getD k 0).toNat:=by
    rw [wdN_append,← hwz]
    have:wdN [wordZ code (k:Int)]=(wordZ code (k:Int)).2:=by simp [wdN]
    omega
   have w2:s+wdN (pre++[wordZ code (k:Int),(x.toNat,spanB (k:Int))])=s+wdN pre+(code.getD k 0).toNat+spanB (k:Int):=by
    rw [wdN_append,← hwz]
    have:wdN [wordZ code (k:Int),(x.toNat,spanB (k:Int))]=(wordZ code (k:Int)).2+spanB (k:Int):=by simp [wdN]
    omega
   have hx:=(e1 ▸ h).is
   rw [w1] at hx
   have hxx:((x.toNat:Nat):Int)=x:=by have:=ho.2.2.1;omega
   have hrm:=(e2 ▸ h).room
   rw [w2] at hrm
   have hml:=moreL_len l (k:Int) x
   have hsp:=spanL_pos (k:Int)
   have ih:=Puts.row hs hl hok hF r (moreL l (k:Int) x) (pre++[wordZ code (k:Int),(x.toNat,spanB (k:Int))]) post (e2 ▸ h) (fun y hy=>hc y (List.mem_cons_of_mem _ hy)) hr
   rw [w2,← e4] at ih
   exact .step (by omega) hT hrd (by omega) (by rw [hx,hxx];exact ho) (by rw [hx,hxx];exact hN) (by rw [hx,hxx];exact ih)
  ·cases hr
theorem ord_ne:∀ i,i < 19→∀ j,j < 19→i≠j→(ordL.getD i 0).toNat≠(ordL.getD j 0).toNat:=by decide +kernel
theorem ord_inv:∀ j,j < 19→∃ i,i < 19∧(ordL.getD i 0).toNat=j:=by decide +kernel
theorem ord_lt:∀ i,i < 19→(ordL.getD i 0).toNat < 19:=by decide +kernel
theorem getD_setH (Z:List Int)(i j:Nat)(z:Int)(h:i < Z.length):(Z.set i z).getD j 0=if i=j then z else Z.getD j 0:=by
 by_cases e:i=j
 ·subst e;simp [List.getD,h]
 ·simp [List.getD,List.getElem?_set,e]
theorem rep0 (n j:Nat):(List.replicate n (0:Int)).getD j 0=0:=by
 unfold List.getD
 rw [List.getElem?_replicate]
 split <;> rfl
theorem codeT_at (bs:List Int)(p:Nat):∀ n,n≤19→∀ i,i < 19→(codeT bs p n).getD (ordL.getD i 0).toNat 0=if i < n then ((bitsAt bs (p+3*i) 3:Nat):Int) else 0
 | 0,_,i,hi=>by
  rw [if_neg (Nat.not_lt_zero i),codeT]
  exact rep0 _ _
 | n+1,h,i,hi=>by
  rw [codeT,getD_setH _ _ _ _ (by rw [codeT_len];exact ord_lt n (by omega)),codeT_at bs p n (by omega) i hi]
  by_cases e:n=i
  ·subst e;rw [if_pos rfl,if_pos (by omega)]
  ·rw [if_neg (ord_ne n (by omega) i hi e)]
   by_cases h2:i < n
   ·rw [if_pos h2,if_pos (by omega)]
   ·rw [if_neg h2,if_neg (by omega)]
def wordsC (code:List Int)(n:Nat):List (Nat × Nat):=(List.range n).map fun i=>((code.getD (ordL.getD i 0).toNat 0).toNat,3)
theorem wordsC_snoc (code:List Int)(n:Nat):wordsC code (n+1)=wordsC code n++[((code.getD (ordL.getD n 0).toNat 0).toNat,3)]:=by simp [wordsC,List.range_succ]
theorem wordsC_wd (code:List Int):∀ n,wdN (wordsC code n)=3*n
 | 0=>by simp [wordsC,wdN]
 | n+1=>by rw [wordsC_snoc,wdN_append,wordsC_wd code n];simp [wdN];omega
theorem wordsC_split (code:List Int):∀ n i,i < n→∃ r,wordsC code n=wordsC code i++((code.getD (ordL.getD i 0).toNat 0).toNat,3) :: r
 | 0,i,h=>absurd h (Nat.not_lt_zero i)
 | n+1,i,h=>by
  by_cases e:i=n
  ·subst e;exact ⟨[],by rw [wordsC_snoc]⟩
  ·obtain ⟨r,hr⟩:=wordsC_split code n i (by omega)
   exact ⟨r++[((code.getD (ordL.getD n 0).toNat 0).toNat,3)],by rw [wordsC_snoc,hr];simp⟩
def headW (lit dist code:List Int)(told:Nat)(rs:List (Int × Int)):List (Nat × Nat):=
 [(lit.length - 257,5),(dist.length - 1,5),(told - 4,4)]++wordsC code told++wordsR code rs
structure CodeW (code:List Int)(told:Nat)(rs:List (Int × Int))(F:List Int):Prop where
 len:code.length=19
 small:Small 7 code
 full:fullB code=true
 lo:4≤told
 hi:told≤19
 rest:∀ i,told≤i→i < 19→code.getD (ordL.getD i 0).toNat 0=0
 has:∀ y∈rs,HasC code y.1
 runs:runAll (F.length:Int) [] rs=some F
theorem codeT_eq {bs:List Int}{s told:Nat}{code:List Int}{pre post:List (Nat × Nat)}(h:Puts bs s (pre++wordsC code told++post))(hl:code.length=19)(hs:Small 7 code)(hi:told≤19)(hr:∀ i,told≤i→i < 19→code.getD (ordL.getD i 0).toNat 0=0):codeT bs (s+wdN pre) told=code:=by
 apply List.ext_getElem (by rw [codeT_len,hl])
 intro j h1 h2
 obtain ⟨i,hi19,hij⟩:=ord_inv j (by rw [codeT_len] at h1;exact h1)
 have hc:=codeT_at bs (s+wdN pre) told hi i hi19
 rw [hij] at hc
 have e1:(codeT bs (s+wdN pre) told).getD j 0=(codeT bs (s+wdN pre) told)[j]:=by simp [List.getD,h1]
 have e2:code.getD j 0=code[j]:=by simp [List.getD,h2]
 rw [← e1,← e2,hc]
 by_cases ht:i < told
 ·rw [if_pos ht]
  obtain ⟨r,hr⟩:=wordsC_split code told i ht
  rw [hr] at h
  have hx:=(show Puts bs s ((pre++wordsC code i)++((code.getD (ordL.getD i 0).toNat 0).toNat,3) :: (r++post)) by simpa using h).is
  rw [wdN_append,wordsC_wd,← Nat.add_assoc] at hx
  rw [hx,hij]
  have:=hs _ (List.getElem_mem h2)
  rw [e2];omega
 ·rw [if_neg ht,← hij]
  exact (hr i (by omega) hi19).symm
theorem head_backG {bs:List Int}{s told:Nat}{lit dist code:List Int}{rs:List (Int × Int)}{pre post:List (Nat × Nat)}(h:Puts bs s (pre++headW lit dist code told rs++post))(hc:CodeW code told rs (lit++dist))(hb:headB lit dist=true):HeadR bs (s+wdN pre) lit dist 0 (s+wdN (pre++headW lit dist code told rs)):=by
 unfold headB at hb
 obtain ⟨hb1,hb2⟩:=Bool.and_eq_true_iff.1 hb
 obtain ⟨l1,l2,l3,l4⟩:=of_decide_eq_true hb1
 have hlo:=hc.lo
 have hhi:=hc.hi
 unfold headW at h
 have x1:=(show Puts bs s (pre++(lit.length - 257,5) :: ([(dist.length - 1,5),(told - 4,4)]++wordsC code told++wordsR code rs++post)) by simpa using h).is
 have x2:=(show Puts bs s ((pre++[(lit.length - 257,5)])++(dist.length - 1,5) :: ([(told - 4,4)]++wordsC code told++wordsR code rs++post)) by simpa using h).is
 have x3:=(show Puts bs s ((pre++[(lit.length - 257,5),(dist.length - 1,5)])++(told - 4,4) :: (wordsC code told++wordsR code rs++post)) by simpa using h).is
 have x4:=codeT_eq (pre:=pre++[(lit.length - 257,5),(dist.length - 1,5),(told - 4,4)]) (post:=wordsR code rs++post) (by simpa using h) hc.len hc.small hhi hc.rest
 have h5:Puts bs s ((pre++([(lit.length - 257,5),(dist.length - 1,5),(told - 4,4)]++wordsC code told))++(wordsR code rs++post)):=by simpa using h
 have x5:=Puts.row (N:=lit.length+dist.length) (F:=lit++dist) (small7_15 hc.small) (by rw [hc.len];decide) (full_ref hc.full) (by simp) rs [] (pre++([(lit.length - 257,5),(dist.length - 1,5),(told - 4,4)]++wordsC code told)) post
  h5 hc.has (by have:=hc.runs;rw [List.length_append] at this;exact this)
 have hr:=h5.room
 have w0:wdN (pre++[(lit.length - 257,5),(dist.length - 1,5),(told - 4,4)])=wdN pre+14:=by rw [wdN_append];rfl
 have w1:wdN (pre++([(lit.length - 257,5),(dist.length - 1,5),(told - 4,4)]++wordsC code told))=wdN pre+(14+3*told):=by rw [wdN_append,wdN_append,wordsC_wd];rfl
 have w2:wdN (pre++[(lit.length - 257,5)])=wdN pre+5:=by rw [wdN_append];rfl
 have w3:wdN (pre++[(lit.length - 257,5),(dist.length - 1,5)])=wdN pre+10:=by rw [wdN_append];rfl
 rw [w1] at x5 hr
 rw [w0,← Nat.add_assoc] at x4
 rw [w2,← Nat.add_assoc] at x2
 rw [w3,← Nat.add_assoc] at x3
 unfold HeadR
 rw [x1,x2,x3,if_neg (by omega),if_neg (by omega),if_neg (by omega)]
 rw [show told - 4+4=told by omega,x4,if_neg (by rw [hc.full];decide)]
 rw [show lit.length - 257+257=lit.length by omega,show dist.length - 1+1=dist.length by omega]
 refine ⟨lit++dist,s+wdN (pre++headW lit dist code told rs),0,?_,?_⟩
 ·rw [show s+wdN pre+14+3*told=s+(wdN pre+(14+3*told)) by omega]
  have e:pre++([(lit.length - 257,5),(dist.length - 1,5),(told - 4,4)]++wordsC code told)++wordsR code rs=pre++headW lit dist code told rs:=by unfold headW;simp
  rw [e] at x5
  exact x5
 ·rw [if_pos rfl,List.take_left,List.drop_left,if_pos hb2]
  exact ⟨rfl,rfl,rfl,rfl⟩
inductive TokW (lit dist:List Int):Tk→List (Nat × Nat)→Prop
 | one (c:Int):0≤c→c < 256→HasC lit c→TokW lit dist ⟨0,0,c⟩ [wordZ lit c]
 | long (j u:Nat):j < 30→u < 2 ^ de j→HasC lit 285→HasC dist (j:Int)→TokW lit dist ⟨258,((db j+u:Nat):Int),0⟩ [wordZ lit 285,(0,0),wordZ dist (j:Int),(u,de j)]
 | copy (i v j u:Nat):i < 28→v < 2 ^ le4 i→lb i+v≤257→j < 30→u < 2 ^ de j→HasC lit ((257+i:Nat):Int)→HasC dist (j:Int)→
   TokW lit dist ⟨((lb i+v:Nat):Int),((db j+u:Nat):Int),0⟩ [wordZ lit ((257+i:Nat):Int),(v,le4 i),wordZ dist (j:Int),(u,de j)]
theorem Puts.sym {bs:List Int}{s:Nat}{pre rest:List (Nat × Nat)}{L:List Int}{z:Int}(h:Puts bs s (pre++wordZ L z :: rest))(hc:CodeOk L)(hz:HasC L z):SymR bs L (s+wdN pre) z 0 (s+wdN (pre++[wordZ L z])):=by
 obtain ⟨k,rfl,hk,h0⟩:=hz
 obtain ⟨T,hT⟩:∃ T:Nat,min3 15 (8*bs.length - (s+wdN pre:Nat))=T:=by
  have:=h.room
  obtain ⟨T,h,_⟩:=min3_at (8*bs.length) (s+wdN pre) (by omega)
  exact ⟨T,by simpa using h⟩
 have hrd:=h.read hc.2.1 hc.1 hc.2.2 hk h0 hT
 refine ⟨T,hT,?_⟩
 have e:s+wdN (pre++[wordZ L (k:Int)])=s+wdN pre+(L.getD k 0).toNat:=by
  rw [wdN_append]
  have:wdN [wordZ L (k:Int)]=(L.getD k 0).toNat:=by simp [wdN,wordZ]
  omega
 rw [e];exact hrd
theorem no_lit {c:Int}{n most:Nat}(h:(Tk.mk 0 0 c).no n (most:Int)=0):n < most:=by
 apply Classical.byContradiction
 intro hn
 unfold Tk.no Tk.ok at h
 rw [if_neg (by simp),if_neg (by simp only;omega),if_pos (by simp only;rw [if_pos (by decide)];omega)] at h
 exact absurd h (by decide)
theorem no_copy {l d:Nat}{n most:Nat}(h1:3≤l)(h:(Tk.mk (l:Int) (d:Int) 0).no n (most:Int)=0):d≤n∧n+l≤most:=by
 apply Classical.byContradiction
 intro hn
 unfold Tk.no at h
 by_cases c1:(Tk.mk (l:Int) (d:Int) 0).ok=false
 ·rw [if_pos c1] at h;exact absurd h (by decide)
 ·rw [if_neg c1] at h
  by_cases c2:(n:Int) < (d:Int)
  ·rw [if_pos c2] at h;exact absurd h (by decide)
  ·rw [if_neg c2,if_pos (by simp only;rw [if_neg (by omega)];omega)] at h
   exact absurd h (by decide)
theorem TokW.step {bs:List Int}{s most:Nat}{lit dist:List Int}{t:Tk}{ws pre post:List (Nat × Nat)}{last:Bool}{out:List Int}(hw:TokW lit dist t ws)(h:Puts bs s (pre++ws++post))(hl:CodeOk lit)(hd:CodeOk dist)(hno:t.no out.length (most:Int)=0):
  ItemR bs most (s+wdN pre) (.sym lit dist) last out 0 (s+wdN (pre++ws)) (.sym lit dist) last (t.put out):=by
 cases hw with
 | one c h0 h1 hc=>
  have hs:=(show Puts bs s (pre++wordZ lit c :: post) by simpa using h).sym hl hc
  have hm:=no_lit hno
  unfold ItemR
  refine ⟨c,0,_,hs,?_⟩
  rw [if_neg (by decide),if_pos h1,if_pos hm]
  exact ⟨rfl,rfl,rfl,rfl,by simp [Tk.put]⟩
 | long j u hj hu hc1 hc2=>
  have h3:=db_top j hj
  obtain ⟨m1,m2⟩:=no_copy (l:=258) (d:=db j+u) (by decide) hno
  have hs:=(show Puts bs s (pre++wordZ lit 285 :: ([(0,0),wordZ dist (j:Int),(u,de j)]++post)) by simpa using h).sym hl hc1
  have hx:=(show Puts bs s ((pre++[wordZ lit 285])++(0,0) :: ([wordZ dist (j:Int),(u,de j)]++post)) by simpa using h).is
  have hs2:=(show Puts bs s ((pre++[wordZ lit 285,(0,0)])++wordZ dist (j:Int) :: ([(u,de j)]++post)) by simpa using h).sym hd hc2
  have hx2:=(show Puts bs s ((pre++[wordZ lit 285,(0,0),wordZ dist (j:Int)])++(u,de j) :: post) by simpa using h).is
  have hr1:=(show Puts bs s ((pre++[wordZ lit 285,(0,0)])++([wordZ dist (j:Int),(u,de j)]++post)) by simpa using h).room
  have hr2:=(show Puts bs s ((pre++[wordZ lit 285,(0,0),wordZ dist (j:Int),(u,de j)])++post) by simpa using h).room
  have e1:wdN (pre++[wordZ lit 285,(0,0)])=wdN (pre++[wordZ lit 285])+0:=by simp [wdN_append,wdN]
  have e2:wdN (pre++[wordZ lit 285,(0,0),wordZ dist (j:Int),(u,de j)])=wdN (pre++[wordZ lit 285,(0,0),wordZ dist (j:Int)])+de j:=by simp [wdN_append,wdN];omega
  have e3:(pre++[wordZ lit 285,(0,0)])++[wordZ dist (j:Int)]=pre++[wordZ lit 285,(0,0),wordZ dist (j:Int)]:=by simp
  rw [e3] at hs2
  rw [e1] at hs2 hr1
  rw [e2] at hr2
  have l1:lenX 285=0:=by decide
  have l2:lenB 285=258:=by decide
  unfold ItemR
  refine ⟨285,0,_,hs,?_⟩
  rw [if_neg (by decide),if_neg (by decide),if_neg (by decide),if_neg (by decide),l1,if_neg (by omega)]
  refine ⟨(j:Int),0,_,hs2,?_⟩
  rw [if_neg (by decide),if_neg (by omega),Int.toNat_natCast,if_neg (by omega),hx2,hx,l2,if_neg (by omega),if_neg (by omega)]
  refine ⟨rfl,by rw [e2];omega,rfl,rfl,?_⟩
  unfold Tk.put
  rw [if_neg (show ¬ (258:Int)=0 by decide)]
  rfl
 | copy i v j u hi hv hlv hj hu hc1 hc2=>
  have h3:=db_top j hj
  have h4:=lb_top i hi
  obtain ⟨m1,m2⟩:=no_copy (l:=lb i+v) (d:=db j+u) (by omega) hno
  have hs:=(show Puts bs s (pre++wordZ lit ((257+i:Nat):Int) :: ([(v,le4 i),wordZ dist (j:Int),(u,de j)]++post)) by simpa using h).sym hl hc1
  have hx:=(show Puts bs s ((pre++[wordZ lit ((257+i:Nat):Int)])++(v,le4 i) :: ([wordZ dist (j:Int),(u,de j)]++post)) by simpa using h).is
  have hs2:=(show Puts bs s ((pre++[wordZ lit ((257+i:Nat):Int),(v,le4 i)])++wordZ dist (j:Int) :: ([(u,de j)]++post)) by simpa using h).sym hd hc2
  have hx2:=(show Puts bs s ((pre++[wordZ lit ((257+i:Nat):Int),(v,le4 i),wordZ dist (j:Int)])++(u,de j) :: post) by simpa using h).is
  have hr1:=(show Puts bs s ((pre++[wordZ lit ((257+i:Nat):Int),(v,le4 i)])++([wordZ dist (j:Int),(u,de j)]++post)) by simpa using h).room
  have hr2:=(show Puts bs s ((pre++[wordZ lit ((257+i:Nat):Int),(v,le4 i),wordZ dist (j:Int),(u,de j)])++post) by simpa using h).room
  have e1:wdN (pre++[wordZ lit ((257+i:Nat):Int),(v,le4 i)])=wdN (pre++[wordZ lit ((257+i:Nat):Int)])+le4 i:=by simp [wdN_append,wdN];omega
  have e2:wdN (pre++[wordZ lit ((257+i:Nat):Int),(v,le4 i),wordZ dist (j:Int),(u,de j)])=wdN (pre++[wordZ lit ((257+i:Nat):Int),(v,le4 i),wordZ dist (j:Int)])+de j:=by simp [wdN_append,wdN];omega
  have e3:(pre++[wordZ lit ((257+i:Nat):Int),(v,le4 i)])++[wordZ dist (j:Int)]=pre++[wordZ lit ((257+i:Nat):Int),(v,le4 i),wordZ dist (j:Int)]:=by simp
  rw [e3] at hs2
  rw [e1] at hs2 hr1
  rw [e2] at hr2
  have l0:((257+i:Nat):Int)≠285∨i=28:=by omega
  have l1:lenX ((257+i:Nat):Int)=le4 i:=by
   unfold lenX
   rw [if_neg (by omega)]
   congr 1;omega
  have l2:lenB ((257+i:Nat):Int)=lb i:=by
   unfold lenB
   rw [if_neg (by omega)]
   congr 1;omega
  unfold ItemR
  refine ⟨((257+i:Nat):Int),0,_,hs,?_⟩
  rw [if_neg (by decide),if_neg (by omega),if_neg (by omega),if_neg (by omega),l1,if_neg (by omega)]
  refine ⟨(j:Int),0,s+wdN (pre++[wordZ lit ((257+i:Nat):Int),(v,le4 i),wordZ dist (j:Int)]),by rw [Nat.add_assoc];exact hs2,?_⟩
  rw [if_neg (by decide),if_neg (by omega),Int.toNat_natCast,if_neg (by omega),hx2,hx,l2,if_neg (by omega),if_neg (by omega)]
  refine ⟨rfl,by rw [e2];omega,rfl,rfl,?_⟩
  unfold Tk.put
  rw [if_neg (by simp only;omega)]
  rfl
inductive TokWs (lit dist:List Int):List Tk→List (Nat × Nat)→Prop
 | nil:TokWs lit dist [] []
 | cons {t:Tk} {r:List Tk} {ws vs:List (Nat × Nat)}:TokW lit dist t ws→TokWs lit dist r vs→TokWs lit dist (t :: r) (ws++vs)

def Toks (w:World)(ao:Option Addr)(ts:List Tk):Prop:=
 ∀ i,i < ts.length→∃ b off,ao=some ⟨b,off,none⟩∧w.cell? ⟨b,off+i*3,none⟩=some (.int .i64 (ts.getD i ⟨0,0,0⟩).l)∧w.cell? ⟨b,off+i*3+1,none⟩=some (.int .i64 (ts.getD i ⟨0,0,0⟩).d)∧w.cell? ⟨b,off+i*3+2,none⟩=some (.int .u8 (ts.getD i ⟨0,0,0⟩).c)
theorem Toks.keptNo {w w':World}{ao:Option Addr}{ts:List Tk}(h:Toks w ao ts)(hk:Kept NoB w w'):Toks w' ao ts:=by
 intro i hi
 obtain ⟨b,off,h1,h2,h3,h4⟩:=h i hi
 exact ⟨b,off,h1,hk.cell h2,hk.cell h3,hk.cell h4⟩
def AllT (ts:List Tk):Prop:=∀ t∈ts,t.wf
def expF (most:Int):List Tk→List Int→Nat→List Int × Nat × Int
 | [],bs,i=>(bs,i,0)
 | t :: r,bs,i=>if t.no bs.length most=0 then expF most r (t.put bs) (i+1) else (bs,i,t.no bs.length most)
theorem group4_any (i:Nat)(w:World)(hi:i≤29):Calls Tryz.prog 143 #[.int .i64 i,.int .i64 4] w fun e w'=>e = .returned (.tuple #[.int .i64 (gb 4 i:Nat),.int .i64 (ge 4 i:Nat)])∧w=w':=by
 obtain ⟨k,hk⟩:∃ k,k=i / 4:=⟨_,rfl⟩
 have hdiv:(i:Int) / 4=k:=by omega
 have hk14:k≤14:=by omega
 have HB:Hid (gb 4 i=if k - 1=0 then i else (4+i % 4)*2 ^ (k - 1)):=by unfold gb;rw [← hk];exact rfl
 have HE:Hid (ge 4 i=k - 1):=by unfold ge;rw [← hk];exact rfl
 obtain ⟨m,hm⟩:∃ m,m=i % 4:=⟨_,rfl⟩
 have hmod:(i:Int) % 4=m:=by omega
 have hm4:m < 4:=by omega
 rw [← hm] at HB
 clear hk hm
 rw [HB.out,HE.out]
 clear HB HE
 go_enter Tryz.func143,Tryz.ntmps143
 by_cases h0:k≤1
 ·have h1:k - 1=0:=by omega
  rw [if_pos h1,h1]
  have hmax:(if (k:Int) - 1 < 0 then (0:Int) else (k:Int) - 1)=0:=by split <;> omega
  clear h1
  go_wp2
  go_ret2
  exact ⟨rfl,rfl⟩
 ·have h1:¬ k - 1=0:=by omega
  rw [if_neg h1]
  obtain ⟨e,he⟩:∃ e,e=k - 1:=⟨_,rfl⟩
  rw [← he]
  have hke:(k:Int) - 1=e:=by omega
  have hn:¬ (e:Int) < 0:=by omega
  have he0:((e:Int) == 0)=false:=by simp;omega
  have he13:e≤13:=by omega
  have hp:2 ^ e≤2 ^ 13:=Nat.pow_le_pow_right (by decide) he13
  have hmul:((4:Int)+m)*2 ^ e=(((4+m)*2 ^ e:Nat):Int):=by push_cast;rfl
  have hmb:(4+m)*2 ^ e≤8*8192:=Nat.mul_le_mul (by omega) hp
  generalize (4+m)*2 ^ e=v at hmul hmb ⊢
  clear hp he h1 h0
  go_wp2
  go_ret2
  exact ⟨rfl,rfl⟩
theorem group2_any (i:Nat)(w:World)(hi:i≤29):Calls Tryz.prog 143 #[.int .i64 i,.int .i64 2] w fun e w'=>e = .returned (.tuple #[.int .i64 (gb 2 i:Nat),.int .i64 (ge 2 i:Nat)])∧w=w':=by
 obtain ⟨k,hk⟩:∃ k,k=i / 2:=⟨_,rfl⟩
 have hdiv:(i:Int) / 2=k:=by omega
 have hk14:k≤14:=by omega
 have HB:Hid (gb 2 i=if k - 1=0 then i else (2+i % 2)*2 ^ (k - 1)):=by unfold gb;rw [← hk];exact rfl
 have HE:Hid (ge 2 i=k - 1):=by unfold ge;rw [← hk];exact rfl
 obtain ⟨m,hm⟩:∃ m,m=i % 2:=⟨_,rfl⟩
 have hmod:(i:Int) % 2=m:=by omega
 have hm4:m < 2:=by omega
 rw [← hm] at HB
 clear hk hm
 rw [HB.out,HE.out]
 clear HB HE
 go_enter Tryz.func143,Tryz.ntmps143
 by_cases h0:k≤1
 ·have h1:k - 1=0:=by omega
  rw [if_pos h1,h1]
  have hmax:(if (k:Int) - 1 < 0 then (0:Int) else (k:Int) - 1)=0:=by split <;> omega
  clear h1
  go_wp2
  go_ret2
  exact ⟨rfl,rfl⟩
 ·have h1:¬ k - 1=0:=by omega
  rw [if_neg h1]
  obtain ⟨e,he⟩:∃ e,e=k - 1:=⟨_,rfl⟩
  rw [← he]
  have hke:(k:Int) - 1=e:=by omega
  have hn:¬ (e:Int) < 0:=by omega
  have he0:((e:Int) == 0)=false:=by simp;omega
  have he13:e≤13:=by omega
  have hp:2 ^ e≤2 ^ 13:=Nat.pow_le_pow_right (by decide) he13
  have hmul:((2:Int)+m)*2 ^ e=(((2+m)*2 ^ e:Nat):Int):=by push_cast;rfl
  have hmb:(2+m)*2 ^ e≤8*8192:=Nat.mul_le_mul (by omega) hp
  generalize (2+m)*2 ^ e=v at hmul hmb ⊢
  clear hp he h1 h0
  go_wp2
  go_ret2
  exact ⟨rfl,rfl⟩
theorem symLen_any (i:Nat)(w:World)(hi:i < 28):Calls Tryz.prog 121 #[.int .i64 (257+i:Nat)] w fun e w'=>e = .returned (.tuple #[.int .i64 (lb i:Nat),.int .i64 (le4 i:Nat),.bool true])∧w=w':=by
 have h1:¬ ((257+i:Nat):Int) < 257:=by omega
 have h2:¬ (285:Int) < ((257+i:Nat):Int):=by omega
 have h3:(((257+i:Nat):Int) == 285)=false:=by simp;omega
 have h4:((257+i:Nat):Int) - 257=i:=by omega
 have hb:=(lb_top i hi)
 have HG:=Hd (fun w=>group4_any i w (by omega))
 have hlb:lb i=3+gb 4 i:=rfl
 have hp:=Nat.one_le_two_pow (n:=le4 i)
 have hg:gb 4 i≤259:=by omega
 have HB:Hid (lb i=3+gb 4 i):=rfl
 have HE:Hid (le4 i=ge 4 i):=rfl
 rw [HB.out,HE.out]
 clear hb hlb HB HE hp
 generalize gb 4 i=b at HG hg ⊢
 generalize ge 4 i=x at HG ⊢
 generalize 257+i=s at h1 h2 h3 h4 ⊢
 go_enter Tryz.func121,Tryz.ntmps121
 go_wp2_with fail
 refine (HG.out _).mono ?_
 rintro e w' ⟨rfl,rfl⟩
 go_wp2
 go_ret3
 exact ⟨by push_cast;rfl,rfl⟩
theorem symLen_last (w:World):Calls Tryz.prog 121 #[.int .i64 285] w fun e w'=>e = .returned (.tuple #[.int .i64 258,.int .i64 0,.bool true])∧w=w':=by
 go_enter Tryz.func121,Tryz.ntmps121
 go_wp2
 go_ret3
 exact ⟨rfl,rfl⟩
theorem symDist_any (i:Nat)(w:World)(hi:i < 30):Calls Tryz.prog 122 #[.int .i64 i] w fun e w'=>e = .returned (.tuple #[.int .i64 (db i:Nat),.int .i64 (de i:Nat),.bool true])∧w=w':=by
 have h1:¬ (i:Int) < 0:=by omega
 have h2:¬ (29:Int) < (i:Int):=by omega
 have hb:=(db_top i hi)
 have HG:=Hd (fun w=>group2_any i w (by omega))
 have hlb:db i=1+gb 2 i:=rfl
 have hp:=Nat.one_le_two_pow (n:=de i)
 have hg:gb 2 i≤32769:=by omega
 have HB:Hid (db i=1+gb 2 i):=rfl
 have HE:Hid (de i=ge 2 i):=rfl
 rw [HB.out,HE.out]
 clear hb hlb HB HE hp
 generalize gb 2 i=b at HG hg ⊢
 generalize ge 2 i=x at HG ⊢
 go_enter Tryz.func122,Tryz.ntmps122
 go_wp2_with fail
 refine (HG.out _).mono ?_
 rintro e w' ⟨rfl,rfl⟩
 go_wp2
 go_ret3
 exact ⟨by push_cast;rfl,rfl⟩
theorem symDistZ (i:Nat)(w:World)(hi:i < 30):Calls Tryz.prog 122 #[.int .i64 (0+i:Nat)] w fun e w'=>e = .returned (.tuple #[.int .i64 (db i:Nat),.int .i64 (de i:Nat),.bool true])∧w=w':=by
 rw [Nat.zero_add];exact symDist_any i w hi
def LastP (o H:Nat)(B E:Nat→Nat)(n:Nat)(w:World)(e:Ending)(w':World):Prop:=
 ∃ l,l≤H∧B l≤n∧(l < H→n < B (l+1))∧e = .returned (.tuple #[.int .i64 (o+l:Nat),.int .i64 (E l:Nat),.int .u32 (n - B l:Nat)])∧w=w'
theorem lastLen_any (n:Nat)(w:World)(hn:3≤n)(hn2:n≤257):
  Calls Tryz.prog 136 #[.int .i64 n,.int .i64 257,.int .i64 284,.func (.func 121) #[] #[]] w (LastP 257 27 lb le4 n w):=by
 go_enter Tryz.func136,Tryz.ntmps136
 go_wp2
 go_loop [1,2] (fun a b=>∃ l h:Nat,l≤h∧h≤27∧a = .int .i64 (257+l:Nat)∧b = .int .i64 (257+h:Nat)∧Hid (lb l≤n)∧Hid (h < 27→n < lb (h+1))) (fun a b=>(intOf b).toNat - (intOf a).toNat)
 case atStart=>exact ⟨0,27,by omega,by omega,rfl,rfl,(by rw [lb0];exact hn:lb 0≤n),(fun h=>absurd h (by omega):27 < 27→n < lb (27+1))⟩
 case round=>
  obtain ⟨l,h,hlh,hh,rfl,rfl,HL,HH⟩:=hrel
  by_cases hlt:l < h
  ·obtain ⟨m,hm⟩:∃ m,m=(l+h+1) / 2:=⟨_,rfl⟩
   have hmid:(((257+l:Nat):Int)+((257+h:Nat):Int)+1) / 2=((257+m:Nat):Int):=by omega
   have hlti:((257+l:Nat):Int) < ((257+h:Nat):Int):=by omega
   have hml:l < m∧m≤h:=by omega
   obtain ⟨A,hA⟩:∃ A,A=257+l:=⟨_,rfl⟩
   obtain ⟨C,hC⟩:∃ C,C=257+h:=⟨_,rfl⟩
   obtain ⟨M,hM⟩:∃ M,M=257+m:=⟨_,rfl⟩
   rw [← hA,← hC,← hM] at hmid
   rw [← hA,← hC] at hlti ⊢
   have hAb:A≤1000:=by omega
   have hCb:C≤1000:=by omega
   have hMb:1≤M∧M≤1000:=by omega
   have HF:=Hd (fun w=>symLen_any m w (by omega))
   rw [← hM] at HF
   have HA:=Hd hA;have HC:=Hd hC;have HM:=Hd hM;have HMl:=Hd hml;have HLt:=Hd hlt
   clear hm hA hC hM hml
   by_cases hle:lb m≤n
   ·have hlei:((lb m:Nat):Int)≤(n:Int):=by omega
    have HLe:=Hd hle
    clear hle
    generalize lb m=bm at HF hlei
    generalize le4 m=em at HF
    go_wp2_with fail
    refine (HF.out _).mono ?_
    rintro e w' ⟨rfl,rfl⟩
    go_wp2
    go_round
    case rel=>exact ⟨m,h,HMl.out.2,hh,by rw [HM.out],by rw [HC.out],HLe.out,HH.out⟩
    case measure=>have:=HA.out;have:=HC.out;have:=HM.out;have:=HMl.out;have:=HLt.out;simp [intOf];omega
   ·have hlei:¬ ((lb m:Nat):Int)≤(n:Int):=by omega
    have HLe:=Hd hle
    clear hle
    generalize lb m=bm at HF hlei
    generalize le4 m=em at HF
    go_wp2_with fail
    refine (HF.out _).mono ?_
    rintro e w' ⟨rfl,rfl⟩
    go_wp2
    go_round
    case rel=>
     have h1:=HMl.out
     refine ⟨l,m - 1,by omega,by omega,by rw [HA.out],?_,HL,?_⟩
     ·have:=HM.out;congr 1;omega
     ·intro _;have:=HLe.out;rw [show m - 1+1=m from by omega];omega
    case measure=>have:=HA.out;have:=HC.out;have:=HM.out;have:=HMl.out;have:=HLt.out;simp [intOf];omega
  ·have hlhe:l=h:=by omega
   subst hlhe
   have HF:=Hd (fun w=>symLen_any l w (by omega))
   have hle:=HL.out
   have hnlt:¬ ((257+l:Nat):Int) < ((257+l:Nat):Int):=by omega
   obtain ⟨A,hA⟩:∃ A,A=257+l:=⟨_,rfl⟩
   rw [← hA] at HF ⊢
   have HA:=Hd hA
   obtain ⟨r,hr⟩:∃ r,r=n - lb l:=⟨_,rfl⟩
   have hsub:(n:Int) - ((lb l:Nat):Int)=r:=by omega
   have hr2:r≤257:=by omega
   have hwr:IntKind.u32.wrap (r:Int)=r:=by rw [IntKind.wrap_u32'];omega
   have HRr:=Hd hr
   have hbl:lb l≤257:=by omega
   clear hA hr hnlt hlt
   obtain ⟨bl,hbe⟩:∃ bl,bl=lb l:=⟨_,rfl⟩
   obtain ⟨el,hee⟩:∃ el,el=le4 l:=⟨_,rfl⟩
   rw [← hbe] at HF hsub hle hbl
   rw [← hee] at HF
   have HBe:=Hd hbe;have HEe:=Hd hee
   clear hbe hee
   go_wp2_with fail
   refine (HF.out _).mono ?_
   rintro e w' ⟨rfl,rfl⟩
   go_wp2
   go_ret3
   exact ⟨l,hh,HL.out,HH.out,by rw [← HRr.out,← HEe.out,← HA.out];rfl,rfl⟩
theorem lastDist_any (n:Nat)(w:World)(hn:1≤n)(hn2:n≤32768):
  Calls Tryz.prog 136 #[.int .i64 n,.int .i64 0,.int .i64 29,.func (.func 122) #[] #[]] w (LastP 0 29 db de n w):=by
 go_enter Tryz.func136,Tryz.ntmps136
 go_wp2
 go_loop [1,2] (fun a b=>∃ l h:Nat,l≤h∧h≤29∧a = .int .i64 (0+l:Nat)∧b = .int .i64 (0+h:Nat)∧Hid (db l≤n)∧Hid (h < 29→n < db (h+1))) (fun a b=>(intOf b).toNat - (intOf a).toNat)
 case atStart=>exact ⟨0,29,by omega,by omega,rfl,rfl,(by rw [db0];exact hn:db 0≤n),(fun h=>absurd h (by omega):29 < 29→n < db (29+1))⟩
 case round=>
  obtain ⟨l,h,hlh,hh,rfl,rfl,HL,HH⟩:=hrel
  by_cases hlt:l < h
  ·obtain ⟨m,hm⟩:∃ m,m=(l+h+1) / 2:=⟨_,rfl⟩
   have hmid:(((0+l:Nat):Int)+((0+h:Nat):Int)+1) / 2=((0+m:Nat):Int):=by omega
   have hlti:((0+l:Nat):Int) < ((0+h:Nat):Int):=by omega
   have hml:l < m∧m≤h:=by omega
   obtain ⟨A,hA⟩:∃ A,A=0+l:=⟨_,rfl⟩
   obtain ⟨C,hC⟩:∃ C,C=0+h:=⟨_,rfl⟩
   obtain ⟨M,hM⟩:∃ M,M=0+m:=⟨_,rfl⟩
   rw [← hA,← hC,← hM] at hmid
   rw [← hA,← hC] at hlti ⊢
   have hAb:A≤1000:=by omega
   have hCb:C≤1000:=by omega
   have hMb:1≤M∧M≤1000:=by omega
   have HF:=Hd (fun w=>symDistZ m w (by omega))
   rw [← hM] at HF
   have HA:=Hd hA;have HC:=Hd hC;have HM:=Hd hM;have HMl:=Hd hml;have HLt:=Hd hlt
   clear hm hA hC hM hml
   by_cases hle:db m≤n
   ·have hlei:((db m:Nat):Int)≤(n:Int):=by omega
    have HLe:=Hd hle
    clear hle
    generalize db m=bm at HF hlei
    generalize de m=em at HF
    go_wp2_with fail
    refine (HF.out _).mono ?_
    rintro e w' ⟨rfl,rfl⟩
    go_wp2
    go_round
    case rel=>exact ⟨m,h,HMl.out.2,hh,by rw [HM.out],by rw [HC.out],HLe.out,HH.out⟩
    case measure=>have:=HA.out;have:=HC.out;have:=HM.out;have:=HMl.out;have:=HLt.out;simp [intOf];omega
   ·have hlei:¬ ((db m:Nat):Int)≤(n:Int):=by omega
    have HLe:=Hd hle
    clear hle
    generalize db m=bm at HF hlei
    generalize de m=em at HF
    go_wp2_with fail
    refine (HF.out _).mono ?_
    rintro e w' ⟨rfl,rfl⟩
    go_wp2
    go_round
    case rel=>
     have h1:=HMl.out
     refine ⟨l,m - 1,by omega,by omega,by rw [HA.out],?_,HL,?_⟩
     ·have:=HM.out;congr 1;omega
     ·intro _;have:=HLe.out;rw [show m - 1+1=m from by omega];omega
    case measure=>have:=HA.out;have:=HC.out;have:=HM.out;have:=HMl.out;have:=HLt.out;simp [intOf];omega
  ·have hlhe:l=h:=by omega
   subst hlhe
   have HF:=Hd (fun w=>symDistZ l w (by omega))
   have hle:=HL.out
   have hnlt:¬ ((0+l:Nat):Int) < ((0+l:Nat):Int):=by omega
   obtain ⟨A,hA⟩:∃ A,A=0+l:=⟨_,rfl⟩
   rw [← hA] at HF ⊢
   have HA:=Hd hA
   obtain ⟨r,hr⟩:∃ r,r=n - db l:=⟨_,rfl⟩
   have hsub:(n:Int) - ((db l:Nat):Int)=r:=by omega
   have hr2:r≤32768:=by omega
   have hwr:IntKind.u32.wrap (r:Int)=r:=by rw [IntKind.wrap_u32'];omega
   have HRr:=Hd hr
   have hbl:db l≤32768:=by omega
   clear hA hr hnlt hlt
   obtain ⟨bl,hbe⟩:∃ bl,bl=db l:=⟨_,rfl⟩
   obtain ⟨el,hee⟩:∃ el,el=de l:=⟨_,rfl⟩
   rw [← hbe] at HF hsub hle hbl
   rw [← hee] at HF
   have HBe:=Hd hbe;have HEe:=Hd hee
   clear hbe hee
   go_wp2_with fail
   refine (HF.out _).mono ?_
   rintro e w' ⟨rfl,rfl⟩
   go_wp2
   go_ret3
   exact ⟨l,hh,HL.out,HH.out,by rw [← HRr.out,← HEe.out,← HA.out];rfl,rfl⟩
theorem lenSym_last (w:World):Calls Tryz.prog 102 #[.int .i64 258] w fun e w'=>e = .returned (.tuple #[.int .i64 285,.int .i64 0,.int .u32 0])∧w=w':=by
 go_enter Tryz.func102,Tryz.ntmps102
 go_wp2
 go_ret3
 exact ⟨rfl,rfl⟩
theorem lenSym_any (i v n:Nat)(w:World)(hi:i < 28)(hv:v < 2 ^ le4 i)(hn:n=lb i+v)(hn2:n≤257):
  Calls Tryz.prog 102 #[.int .i64 n] w fun e w'=>e = .returned (.tuple #[.int .i64 (257+i:Nat),.int .i64 (le4 i:Nat),.int .u32 v])∧w=w':=by
 have hn3:3≤n:=by have:=(lb_top i hi).2.2.1;omega
 have h1:¬ (n:Int) < 3:=by omega
 have h2:¬ (258:Int) < n:=by omega
 have h3:((n:Int) == 258)=false:=by simp;omega
 have HG:Hid (∀ w,Calls Tryz.prog 136 #[.int .i64 n,.int .i64 257,.int .i64 284,.func (.func 121) #[] #[]] w fun e w'=>e = .returned (.tuple #[.int .i64 (257+i:Nat),.int .i64 (le4 i:Nat),.int .u32 v])∧w=w'):=fun w=>by
  refine (lastLen_any n w hn3 hn2).mono ?_
  rintro e w' ⟨l,hl,hb1,hb2,rfl,rfl⟩
  have:=lb_only i l v hi (by omega) hv (by omega) (by intro h;have:=hb2 h;omega)
  subst this
  rw [show n - lb l=v from by omega]
  exact ⟨rfl,rfl⟩
 clear hn hn3 hv hn2
 go_enter Tryz.func102,Tryz.ntmps102
 go_wp2_with fail
 refine (HG.out _).mono ?_
 rintro e w' ⟨rfl,rfl⟩
 go_wp2
 go_ret3
 exact ⟨rfl,rfl⟩
theorem distSym_any (i v n:Nat)(w:World)(hi:i < 30)(hv:v < 2 ^ de i)(hn:n=db i+v):
  Calls Tryz.prog 103 #[.int .i64 n] w fun e w'=>e = .returned (.tuple #[.int .i64 i,.int .i64 (de i:Nat),.int .u32 v])∧w=w':=by
 have ht:=db_top i hi
 have h1:¬ (n:Int) < 1:=by omega
 have h2:¬ (32768:Int) < n:=by omega
 have HG:Hid (∀ w,Calls Tryz.prog 136 #[.int .i64 n,.int .i64 0,.int .i64 29,.func (.func 122) #[] #[]] w fun e w'=>e = .returned (.tuple #[.int .i64 i,.int .i64 (de i:Nat),.int .u32 v])∧w=w'):=fun w=>by
  refine (lastDist_any n w (by omega) (by omega)).mono ?_
  rintro e w' ⟨l,hl,hb1,hb2,rfl,rfl⟩
  have:=db_only i l v hi (by omega) hv (by omega) (by intro h;have:=hb2 h;omega)
  subst this
  rw [show n - db l=v from by omega,Nat.zero_add]
  exact ⟨rfl,rfl⟩
 clear hn ht hv
 go_enter Tryz.func103,Tryz.ntmps103
 go_wp2_with fail
 refine (HG.out _).mono ?_
 rintro e w' ⟨rfl,rfl⟩
 go_wp2
 go_ret3
 exact ⟨rfl,rfl⟩

def good (most:Int):List Tk→List Int→Prop
 | [],_=>True
 | t :: r,bs=>t.no bs.length most=0∧good most r (t.put bs)
def putAll (ts:List Tk)(bs:List Int):List Int:=ts.foldl (fun b t=>t.put b) bs
theorem putAll_snoc (ts:List Tk)(t:Tk)(bs:List Int):putAll (ts++[t]) bs=t.put (putAll ts bs):=by unfold putAll;rw [List.foldl_append];rfl
theorem putAll_succ (ts:List Tk)(bs:List Int)(j:Nat)(hj:j < ts.length):putAll (ts.take (j+1)) bs=(ts.getD j ⟨0,0,0⟩).put (putAll (ts.take j) bs):=by
 rw [List.take_succ_eq_append_getElem hj,putAll_snoc];simp [List.getD,hj]
theorem copyN_pre (D k:Nat)(bs:List Int):bs <+: copyN D k bs:=by
 induction k with
 | zero=>exact List.prefix_refl _
 | succ k ih=>exact ih.trans (List.prefix_append _ _)
theorem put_pre (t:Tk)(bs:List Int):bs <+: t.put bs:=by
 unfold Tk.put
 split
 ·exact List.prefix_append _ _
 ·exact copyN_pre _ _ _
theorem putAll_pre (ts:List Tk)(bs:List Int):bs <+: putAll ts bs:=by
 induction ts generalizing bs with
 | nil=>exact List.prefix_refl _
 | cons t r ih=>exact (put_pre t bs).trans (ih (t.put bs))
theorem putAll_take_pre (ts:List Tk)(k:Nat)(bs:List Int):putAll (ts.take k) bs <+: putAll ts bs:=by
 have:putAll ts bs=putAll (ts.drop k) (putAll (ts.take k) bs):=by unfold putAll;rw [← List.foldl_append,List.take_append_drop]
 rw [this];exact putAll_pre _ _
end Go.Proofs.YtfmjfgmbjdhogaaGreatDoor
