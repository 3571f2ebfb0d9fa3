import Derived.Test.YtfmjfgmbjdhogaaGreatDoorMb2
import Derived.Lib.BytesEntry
import Derived.ArgAppend
import Derived.Laws.IdiomStrings
import Derived.Test.YtfmjfgmbjdhogaaGreatDoorRows
import Derived.BigRegion
import Derived.Deep.DeepCutAuto
import Derived.Deep.RegionWith
set_option linter.unusedVariables false
set_option linter.unusedSimpArgs false
set_option maxRecDepth 20000
set_option maxHeartbeats 8000000
namespace Go.Proofs.YtfmjfgmbjdhogaaGreatDoor
open Go.RowKit
def leB:Nat→Nat→List UInt8
 | 0,_=>[]
 | k+1,n=>UInt8.ofNat (n % 256) :: leB k (n / 256)
theorem leB_len:∀ k n,(leB k n).length=k
 | 0,_=>rfl
 | k+1,n=>by rw [leB,List.length_cons,leB_len k]
theorem leB_num:∀ k n,n < 256 ^ k→num (nb (leB k n))=n
 | 0,n,h=>by simp [leB,nb,num];simp at h;omega
 | k+1,n,h=>by
  have ih:=leB_num k (n / 256) (by rw [Nat.pow_succ] at h;omega)
  have e:nb (leB (k+1) n)=((UInt8.ofNat (n % 256)).toNat:Int) :: nb (leB k (n / 256)):=rfl
  rw [e,num,ih,UInt8.toNat_ofNat',Int.toNat_natCast]
  omega
theorem leB_snoc:∀ k n,leB (k+1) n=leB k n++[UInt8.ofNat (n / 256 ^ k % 256)]
 | 0,n=>by simp [leB]
 | k+1,n=>by
  rw [leB,leB_snoc k (n / 256)]
  conv=>rhs;rw [leB]
  rw [Nat.div_div_eq_div_mul,← Nat.pow_succ']
  rfl
structure GzP where
 text:Bool
 hasx:Bool
 sum:Bool
 extra:List UInt8
 name:List UInt8
 comm:List UInt8
 time:Nat
 xfl:Nat
 os:Nat
def bitN (b:Bool)(k:Nat):Nat:=if b then k else 0
def flagN (g:GzP):Nat:=bitN g.text 1+bitN g.sum 2+bitN g.hasx 4+bitN (!g.name.isEmpty) 8+bitN (!g.comm.isEmpty) 16
def crc16 (bs:List Int):Nat:=crcOf 0 (nats bs) % 65536
def gz1 (g:GzP):List UInt8:=[31,139,8,UInt8.ofNat (flagN g)]++leB 4 g.time++[UInt8.ofNat g.xfl,UInt8.ofNat g.os]
def gzX (g:GzP):List UInt8:=if g.hasx then leB 2 g.extra.length++g.extra else []
def txtB (s:List UInt8):List UInt8:=if s.isEmpty then [] else s++[0]
def gz4 (g:GzP):List UInt8:=gz1 g++gzX g++txtB g.name++txtB g.comm
def headG (g:GzP):List UInt8:=gz4 g++(if g.sum then leB 2 (crc16 (nb (gz4 g))) else [])
structure GzP.Ok (g:GzP):Prop where
 time:g.time < 4294967296
 xfl:g.xfl < 256
 os:g.os < 256
 extra:g.extra.length≤65535
 none:g.hasx=false→g.extra=[]
 name:g.name.length≤1000
 comm:g.comm.length≤1000
 name0:0 ∉ g.name
 comm0:0 ∉ g.comm
structure Cur where
 at_:Nat
 e:Int
def takeB (b:List Int)(s:Cur)(n:Nat):List Int:=if s.e≠0 then [] else if n > b.length - s.at_ then [] else (b.drop s.at_).take n
def takeS (b:List Int)(s:Cur)(n:Nat):Cur:=if s.e≠0 then s else if n > b.length - s.at_ then ⟨s.at_,2⟩ else ⟨s.at_+n,0⟩
def refS2 (s:Cur)(wrong:Bool)(e:Int):Cur:=if s.e=0∧wrong=true then ⟨s.at_,e⟩ else s
def thatS (b:List Int)(s:Cur)(want e:Int):Cur:=refS2 (takeS b s 1) (decide ((takeB b s 1).length=1∧(takeB b s 1).getD 0 0≠want)) e
def zeroAt:List Int→Nat
 | []=>0
 | x :: r=>if x=0 then 0 else zeroAt r+1
def aheadB (b:List Int)(s:Cur):List Int:=(b.drop s.at_).take 1001
def txtS (b:List Int)(s:Cur):Cur:=
 if s.e≠0 then s else
 if zeroAt (aheadB b s)=(aheadB b s).length then (if (aheadB b s).length > 1000 then ⟨s.at_,6⟩ else ⟨s.at_,2⟩)
 else if zeroAt (aheadB b s)=0 then ⟨s.at_,6⟩ else ⟨s.at_+zeroAt (aheadB b s)+1,0⟩
def txtR (b:List Int)(s:Cur):List Int:=
 if s.e≠0 then [] else
 if zeroAt (aheadB b s)=(aheadB b s).length then []
 else (aheadB b s).take (zeroAt (aheadB b s))
structure HdS (b:List Int) where
 s1:Cur
 s2:Cur
 s3:Cur
 fl:Nat
 s5:Cur
 s6:Cur
 s7:Cur
 s8:Cur
 s9:Cur
 s10:Cur
 s11:Cur
 s12:Cur
 s14:Cur
def hdS (b:List Int):HdS b:=
 let s1:=thatS b ⟨0,0⟩ 31 8
 let s2:=thatS b s1 139 8
 let s3:=thatS b s2 8 6
 let fl:=num (takeB b s3 1)
 let s5:=refS2 (takeS b s3 1) (decide (32≤fl)) 6
 let s6:=takeS b s5 4
 let s7:=takeS b s6 1
 let s8:=takeS b s7 1
 let s9:=if fl / 4 % 2=1 then takeS b s8 2 else s8
 let s10:=if fl / 4 % 2=1 then takeS b s9 (num (takeB b s8 2)) else s8
 let s11:=if fl / 8 % 2=1 then txtS b s10 else s10
 let s12:=if fl / 16 % 2=1 then txtS b s11 else s11
 let s14:=if fl / 2 % 2=1 then refS2 (takeS b s12 2) (decide ((takeS b s12 2).e=0∧num (takeB b s12 2)≠crc16 (b.take s12.at_))) 7 else s12
 ⟨s1,s2,s3,fl,s5,s6,s7,s8,s9,s10,s11,s12,s14⟩
def hdG (b : List Int) : GzP :=
  let h := hdS b
  ⟨h.fl % 2 = 1, h.fl / 4 % 2 = 1, h.fl / 2 % 2 = 1, if h.fl / 4 % 2 = 1 then un (takeB b h.s9 (num (takeB b h.s8 2))) else [],
   if h.fl / 8 % 2 = 1 then un (txtR b h.s10) else [], if h.fl / 16 % 2 = 1 then un (txtR b h.s11) else [],
   num (takeB b h.s5 4), num (takeB b h.s6 1), num (takeB b h.s7 1)⟩
theorem takeS_e {b:List Int}{s:Cur}{n:Nat}(h:s.e≠0):takeS b s n=s:=if_pos h
theorem takeB_e {b:List Int}{s:Cur}{n:Nat}(h:s.e≠0):takeB b s n=[]:=if_pos h
theorem refS2_e {s:Cur}{x:Bool}{e:Int}(h:s.e≠0):refS2 s x e=s:=if_neg (fun k=>h k.1)
theorem thatS_e {b:List Int}{s:Cur}{x e:Int}(h:s.e≠0):thatS b s x e=s:=by unfold thatS;rw [takeS_e h,refS2_e h]
theorem txtS_e {b:List Int}{s:Cur}(h:s.e≠0):txtS b s=s:=if_pos h
def Stp (b:List Int)(s s2:Cur)(d:Nat):Prop:=(s2.e=0→s.e=0∧s.at_+d≤s2.at_∧(s.at_≤b.length→s2.at_≤b.length))∧(s.e≠0→s2=s)
theorem Stp.refl (b:List Int)(s:Cur):Stp b s s 0:=⟨fun h=>⟨h,Nat.le_refl _,fun h=>h⟩,fun _=>rfl⟩
theorem Stp.trans {b:List Int}{s s2 s3:Cur}{d d2:Nat}(h:Stp b s s2 d)(h2:Stp b s2 s3 d2):Stp b s s3 (d+d2):=by
 refine ⟨fun e=>?_,fun e=>?_⟩
 ·obtain ⟨a1,a2,a3⟩:=h2.1 e
  obtain ⟨b1,b2,b3⟩:=h.1 a1
  exact ⟨b1,by omega,fun q=>a3 (b3 q)⟩
 ·have:=h.2 e
  subst this
  exact h2.2 e
theorem Stp.ite {b:List Int}{s s2:Cur}{d:Nat}{c:Prop}[Decidable c](h:Stp b s s2 d):Stp b s (if c then s2 else s) 0:=by
 split
 ·exact ⟨fun e=>⟨(h.1 e).1,by have:=(h.1 e).2.1;omega,(h.1 e).2.2⟩,h.2⟩
 ·exact Stp.refl b s
theorem takeS_stp (b:List Int)(s:Cur)(n:Nat):Stp b s (takeS b s n) n:=by
 refine ⟨fun h=>?_,takeS_e⟩
 unfold takeS at h ⊢
 split at h
 ·rename_i h1;exact absurd h h1
 ·rename_i h1
  split at h
  ·exact absurd (show (2:Int)=0 from h) (by decide)
  ·rename_i h2
   rw [if_neg h1,if_neg h2]
   exact ⟨Classical.not_not.1 h1,Nat.le_refl _,fun _=>by dsimp only;omega⟩
theorem refS2_stp (b:List Int)(s:Cur)(x:Bool){e:Int}(he:e≠0):Stp b s (refS2 s x e) 0:=by
 refine ⟨fun h=>?_,refS2_e⟩
 unfold refS2 at h ⊢
 split at h
 ·exact absurd h he
 ·rename_i h1
  rw [if_neg h1]
  exact ⟨h,Nat.le_refl _,fun h=>h⟩
theorem thatS_stp (b:List Int)(s:Cur)(x:Int){e:Int}(he:e≠0):Stp b s (thatS b s x e) 1:=(takeS_stp b s 1).trans (refS2_stp b _ _ he)
theorem zeroAt_le:∀ l,zeroAt l≤l.length
 | []=>Nat.le_refl _
 | x :: r=>by rw [zeroAt,List.length_cons];have:=zeroAt_le r;split <;> omega
theorem txtS_stp (b:List Int)(s:Cur):Stp b s (txtS b s) 0:=by
 refine ⟨fun h=>?_,txtS_e⟩
 have hl:(aheadB b s).length≤b.length - s.at_:=by unfold aheadB;rw [List.length_take,List.length_drop];omega
 have hz:=zeroAt_le (aheadB b s)
 unfold txtS at h ⊢
 split at h
 ·rename_i h1;exact absurd h h1
 ·rename_i h1
  rw [if_neg h1]
  refine ⟨Classical.not_not.1 h1,?_⟩
  split at h
  ·split at h
   ·exact absurd (show (6:Int)=0 from h) (by decide)
   ·exact absurd (show (2:Int)=0 from h) (by decide)
  ·rename_i h2
   rw [if_neg h2]
   split at h
   ·exact absurd (show (6:Int)=0 from h) (by decide)
   ·rename_i h3
    rw [if_neg h3]
    dsimp only
    omega
theorem take_one {b:List Int}{s:Cur}(h0:s.e=0)(hl:s.at_ < b.length):takeB b s 1=[b.getD s.at_ 0]∧takeS b s 1=⟨s.at_+1,0⟩:=by
 have h1:¬ s.e≠0:=fun k=>k h0
 have h2:¬ 1 > b.length - s.at_:=by omega
 refine ⟨?_,by unfold takeS;rw [if_neg h1,if_neg h2]⟩
 unfold takeB
 rw [if_neg h1,if_neg h2,List.drop_eq_getElem_cons hl]
 simp only [List.take_succ_cons,List.take_zero,List.getD,List.getElem?_eq_getElem hl,Option.getD_some]
theorem take_end {b:List Int}{s:Cur}(h0:s.e=0)(hl:¬ s.at_ < b.length):takeS b s 1=⟨s.at_,2⟩:=by
 have h1:¬ s.e≠0:=fun k=>k h0
 have h2:1 > b.length - s.at_:=by omega
 unfold takeS;rw [if_neg h1,if_pos h2]
theorem that_is {b:List Int}{s:Cur}{x e:Int}(h0:s.e=0)(hl:s.at_ < b.length):thatS b s x e=if b.getD s.at_ 0=x then ⟨s.at_+1,0⟩ else ⟨s.at_+1,e⟩:=by
 obtain ⟨e1,e2⟩:=take_one h0 hl
 unfold thatS
 rw [e1,e2]
 unfold refS2
 by_cases hx:b.getD s.at_ 0=x
 ·rw [if_pos hx,if_neg]
  rintro ⟨_,k⟩
  have k:=of_decide_eq_true k
  exact k.2 hx
 ·rw [if_neg hx,if_pos]
  exact ⟨rfl,decide_eq_true ⟨rfl,hx⟩⟩
theorem that_end {b:List Int}{s:Cur}{x e:Int}(h0:s.e=0)(hl:¬ s.at_ < b.length):thatS b s x e=⟨s.at_,2⟩:=by
 unfold thatS
 rw [take_end h0 hl,refS2_e (by show (2:Int)≠0;decide)]
theorem takeS_err {b:List Int}{s:Cur}{n:Nat}(h:s.e=0∨s.e=2∨s.e=6):(takeS b s n).e=0∨(takeS b s n).e=2∨(takeS b s n).e=6:=by
 unfold takeS
 split
 ·exact h
 ·split
  ·exact .inr (.inl rfl)
  ·exact .inl rfl
theorem refS2_err {s:Cur}{x:Bool}(h:s.e=0∨s.e=2∨s.e=6):(refS2 s x 6).e=0∨(refS2 s x 6).e=2∨(refS2 s x 6).e=6:=by
 unfold refS2
 split
 ·exact .inr (.inr rfl)
 ·exact h
theorem thatS_ok {b:List Int}{s:Cur}{x e:Int}(h:s.e=0∨s.e=2)(hs:s.e=0→s.at_ < b.length→b.getD s.at_ 0=x):(thatS b s x e).e=0∨(thatS b s x e).e=2:=by
 by_cases h0:s.e=0
 ·by_cases hl:s.at_ < b.length
  ·rw [that_is h0 hl,if_pos (hs h0 hl)];exact .inl rfl
  ·rw [that_end h0 hl];exact .inr rfl
 ·rw [thatS_e h0];exact h
theorem hdS_stp (b:List Int):Stp b ⟨0,0⟩ (hdS b).s2 2∧Stp b (hdS b).s2 (hdS b).s8 8∧Stp b (hdS b).s8 (hdS b).s14 0:=by
 have e:∀ e:Int,e=8∨e=6∨e=7→e≠0:=by intro e h;omega
 refine ⟨(thatS_stp b _ 31 (by decide)).trans (thatS_stp b _ 139 (by decide)),?_,?_⟩
 ·exact ((((((thatS_stp b _ 8 (by decide)).trans (takeS_stp b _ 1)).trans (refS2_stp b _ _ (by decide))).trans (takeS_stp b _ 4)).trans (takeS_stp b _ 1)).trans (takeS_stp b _ 1))
 ·have h9:Stp b (hdS b).s8 (hdS b).s10 0:=by
   show Stp b (hdS b).s8 (if (hdS b).fl / 4 % 2=1 then takeS b (hdS b).s9 (num (takeB b (hdS b).s8 2)) else (hdS b).s8) 0
   split
   ·rename_i hc
    have e9:(hdS b).s9=takeS b (hdS b).s8 2:=if_pos hc
    rw [e9]
    have:=(takeS_stp b (hdS b).s8 2).trans (takeS_stp b _ (num (takeB b (hdS b).s8 2)))
    exact ⟨fun q=>⟨(this.1 q).1,by have:=(this.1 q).2.1;omega,(this.1 q).2.2⟩,this.2⟩
   ·exact Stp.refl _ _
  have h11:Stp b (hdS b).s10 (hdS b).s11 0:=(txtS_stp b _).ite
  have h12:Stp b (hdS b).s11 (hdS b).s12 0:=(txtS_stp b _).ite
  have h14:Stp b (hdS b).s12 (hdS b).s14 0:=((takeS_stp b _ 2).trans (refS2_stp b _ _ (by decide))).ite
  exact ((h9.trans h11).trans h12).trans h14
theorem hdS_fits {b:List Int}(h:(hdS b).s14.e=0):10≤(hdS b).s14.at_∧(hdS b).s14.at_≤b.length:=by
 obtain ⟨h1,h2,h3⟩:=hdS_stp b
 obtain ⟨_,a2,a3⟩:=((h1.trans h2).trans h3).1 h
 exact ⟨by simpa using a2,a3 (Nat.zero_le _)⟩
theorem hdS_short {b:List Int}(h0:0 < b.length→b.getD 0 0=31)(h1:1 < b.length→b.getD 1 0=139)(hl:b.length < 10):(hdS b).s14.e=2∨(hdS b).s14.e=6:=by
 obtain ⟨g1,g2,g3⟩:=hdS_stp b
 have e8:(hdS b).s8.e≠0:=fun k=>by
  obtain ⟨_,a2,a3⟩:=(g1.trans g2).1 k
  have:=a3 (Nat.zero_le _)
  simp only at a2
  omega
 rw [g3.2 e8]
 have p1:(hdS b).s1.e=0∨(hdS b).s1.e=2:=thatS_ok (.inl rfl) (fun _ h=>h0 h)
 have q1:=(thatS_stp b ⟨0,0⟩ 31 (e:=8) (by decide)).1
 have p2:(hdS b).s2.e=0∨(hdS b).s2.e=2:=thatS_ok p1 (fun k h=>by
  have hat:(thatS b ⟨0,0⟩ 31 8).at_=1:=by
   have k2:(thatS b ⟨0,0⟩ 31 8).e=0:=k
   by_cases hl:0 < b.length
   ·rw [that_is rfl hl,if_pos (h0 hl)]
   ·rw [that_end rfl hl] at k2
    exact absurd (show (2:Int)=0 from k2) (by decide)
  rw [hat] at h ⊢
  exact h1 h)
 have p3:(hdS b).s3.e=0∨(hdS b).s3.e=2∨(hdS b).s3.e=6:=refS2_err (takeS_err (by rcases p2 with h | h;exact .inl h;exact .inr (.inl h)))
 have p5:(hdS b).s5.e=0∨(hdS b).s5.e=2∨(hdS b).s5.e=6:=refS2_err (takeS_err p3)
 have p8:(hdS b).s8.e=0∨(hdS b).s8.e=2∨(hdS b).s8.e=6:=takeS_err (takeS_err (takeS_err p5))
 rcases p8 with h | h
 ·exact absurd h e8
 ·exact h
/-! A head that was put is read as it was. -/
theorem take_mid {b pre x post:List Int}(h:b=pre++x++post):takeB b ⟨pre.length,0⟩ x.length=x∧takeS b ⟨pre.length,0⟩ x.length=⟨pre.length+x.length,0⟩:=by
 subst h
 have h1:¬ (Cur.mk pre.length 0).e≠0:=fun k=>k rfl
 have h2:¬ x.length > (pre++x++post).length - (Cur.mk pre.length 0).at_:=by simp
 refine ⟨?_,by unfold takeS;rw [if_neg h1,if_neg h2]⟩
 unfold takeB
 rw [if_neg h1,if_neg h2]
 simp
theorem zeroAt_app:∀ (x r:List Int),0 ∉ x→zeroAt (x++0 :: r)=x.length
 | [],r,_=>by simp [zeroAt]
 | y :: x,r,h=>by
  have hy:y≠0:=fun e=>h (by simp [e])
  rw [List.cons_append,zeroAt,if_neg hy,zeroAt_app x r (fun k=>h (List.mem_cons_of_mem _ k)),List.length_cons]
theorem txt_mid {b pre x post:List Int}(h:b=pre++(x++[0])++post)(h0:0 ∉ x)(hl:0 < x.length)(hl2:x.length≤1000):txtR b ⟨pre.length,0⟩=x∧txtS b ⟨pre.length,0⟩=⟨pre.length+(x++[0]).length,0⟩:=by
 have ha:aheadB b ⟨pre.length,0⟩=x++0 :: (post.take (1000 - x.length)):=by
  subst h
  unfold aheadB
  rw [List.append_assoc,List.drop_left,List.append_assoc,List.take_append,List.take_of_length_le (by omega)]
  congr 1
  rw [show 1001 - x.length=(1000 - x.length)+1 by omega]
  rfl
 have hz:zeroAt (aheadB b ⟨pre.length,0⟩)=x.length:=by rw [ha];exact zeroAt_app _ _ h0
 have hlen:(aheadB b ⟨pre.length,0⟩).length=x.length+1+(post.take (1000 - x.length)).length:=by rw [ha,List.length_append,List.length_cons];omega
 have h1:¬ (Cur.mk pre.length 0).e≠0:=fun k=>k rfl
 unfold txtR txtS
 rw [if_neg h1,if_neg h1,hz,if_neg (by omega),if_neg (by omega),if_neg (by omega)]
 refine ⟨?_,by rw [List.length_append,List.length_singleton,Nat.add_assoc]⟩
 rw [ha,List.take_left]
theorem nb_app (a c:List UInt8):nb (a++c)=nb a++nb c:=List.map_append
theorem un_nb (L:List UInt8):un (nb L)=L:=by
 unfold un nb
 rw [List.map_map]
 conv=>rhs;rw [← List.map_id L]
 apply List.map_congr_left
 intro x _
 simp
theorem nb_zero {L:List UInt8}(h:0 ∉ L):(0:Int) ∉ nb L:=by
 intro k
 obtain ⟨x,hx,e⟩:=List.mem_map.1 k
 have:x=0:=UInt8.toNat_inj.1 (by simpa using e)
 exact h (this ▸ hx)
theorem flag_bits (g:GzP):flagN g < 32∧decide (flagN g % 2=1)=g.text∧decide (flagN g / 2 % 2=1)=g.sum∧decide (flagN g / 4 % 2=1)=g.hasx∧decide (flagN g / 8 % 2=1)=(!g.name.isEmpty)∧decide (flagN g / 16 % 2=1)=(!g.comm.isEmpty):=by
 unfold flagN
 generalize g.name.isEmpty=n
 generalize g.comm.isEmpty=c
 generalize g.text=t
 generalize g.sum=s
 generalize g.hasx=x
 revert n c t s x
 decide
theorem gz_extra {b pre post:List Int}{g:GzP}(hg:g.Ok)(h:b=pre++nb (gzX g)++post):
  (if g.hasx=true then takeS b (takeS b ⟨pre.length,0⟩ 2) (num (takeB b ⟨pre.length,0⟩ 2)) else ⟨pre.length,0⟩)=⟨pre.length+(nb (gzX g)).length,0⟩∧
  (if g.hasx=true then un (takeB b (takeS b ⟨pre.length,0⟩ 2) (num (takeB b ⟨pre.length,0⟩ 2))) else [])=g.extra:=by
 unfold gzX at h ⊢
 cases hx:g.hasx with
 | false=>
  rw [if_neg (by decide),if_neg (by decide),if_neg (by decide)]
  exact ⟨rfl,(hg.none hx).symm⟩
 | true=>
  rw [hx,if_pos rfl,nb_app] at h
  rw [if_pos rfl,if_pos rfl,if_pos rfl,nb_app]
  have hn:num (nb (leB 2 g.extra.length))=g.extra.length:=leB_num 2 _ (by have:=hg.extra;omega)
  have hl:(nb (leB 2 g.extra.length)).length=2:=by rw [nb_len,leB_len]
  generalize nb (leB 2 g.extra.length)=q at *
  have t1:=take_mid (b:=b) (pre:=pre) (x:=q) (post:=nb g.extra++post) (by rw [h];simp)
  rw [hl] at t1
  rw [t1.1,t1.2,hn]
  have t2:=take_mid (b:=b) (pre:=pre++q) (x:=nb g.extra) (post:=post) (by rw [h];simp)
  rw [List.length_append,hl,nb_len] at t2
  rw [t2.1,t2.2,un_nb,List.length_append,nb_len,hl]
  exact ⟨by rw [Nat.add_assoc],rfl⟩
theorem gz_text {b pre post:List Int}{s:List UInt8}(h0:0 ∉ s)(hl:s.length≤1000)(h:b=pre++nb (txtB s)++post):
  (if (!s.isEmpty)=true then txtS b ⟨pre.length,0⟩ else ⟨pre.length,0⟩)=⟨pre.length+(nb (txtB s)).length,0⟩∧(if (!s.isEmpty)=true then un (txtR b ⟨pre.length,0⟩) else [])=s:=by
 unfold txtB at h ⊢
 cases hs:s with
 | nil=>simp [nb]
 | cons y r=>
  rw [← hs]
  have he:s.isEmpty=false:=by rw [hs];rfl
  rw [he,if_neg (by decide),nb_app] at h
  rw [he]
  have t:=txt_mid (b:=b) (pre:=pre) (x:=nb s) (post:=post) h (nb_zero h0) (by rw [nb_len,hs];simp) (by rw [nb_len];exact hl)
  simp only [Bool.not_false,if_true,if_neg (show ¬ false=true by decide)]
  rw [t.1,t.2,un_nb,nb_app]
  exact ⟨rfl,rfl⟩
theorem gz_back {g:GzP}(hg:g.Ok)(post:List Int):(hdS (nb (headG g)++post)).s14=⟨(headG g).length,0⟩∧hdG (nb (headG g)++post)=g:=by
 obtain ⟨f0,f1,f2,f3,f4,f5⟩:=flag_bits g
 obtain ⟨S,hS⟩:∃ S,S=(if g.sum then leB 2 (crc16 (nb (gz4 g))) else []):=⟨_,rfl⟩
 have h4:nb (gz4 g)=nb (gz1 g)++nb (gzX g)++nb (txtB g.name)++nb (txtB g.comm):=by unfold gz4;simp [nb]
 have hb:nb (headG g)++post=nb (gz1 g)++(nb (gzX g)++(nb (txtB g.name)++(nb (txtB g.comm)++(nb S++post)))):=by
  unfold headG;rw [← hS,nb_app,h4];simp only [List.append_assoc]
 have hlen:(headG g).length=(gz1 g).length+(gzX g).length+(txtB g.name).length+(txtB g.comm).length+S.length:=by unfold headG;rw [← hS,List.length_append];unfold gz4;simp only [List.length_append]
 rw [hb,hlen]
 obtain ⟨b,hbb⟩:∃ b,b=nb (gz1 g)++(nb (gzX g)++(nb (txtB g.name)++(nb (txtB g.comm)++(nb S++post)))):=⟨_,rfl⟩
 rw [← hbb]
 obtain ⟨r,hr⟩:∃ r,r=nb (gzX g)++(nb (txtB g.name)++(nb (txtB g.comm)++(nb S++post))):=⟨_,rfl⟩
 obtain ⟨t4,ht4⟩:∃ t4,t4=nb (leB 4 g.time):=⟨_,rfl⟩
 have ht4l:t4.length=4:=by rw [ht4,nb_len,leB_len]
 have h1:nb (gz1 g)=[31,139,8,(flagN g:Int)]++t4++[(g.xfl:Int),(g.os:Int)]:=by
  have:=hg.xfl;have:=hg.os
  unfold gz1
  rw [ht4]
  simp only [nb,List.map_append,List.map_cons,List.map_nil,UInt8.toNat_ofNat']
  rw [show flagN g % 2 ^ 8=flagN g by omega,show g.xfl % 2 ^ 8=g.xfl by omega,show g.os % 2 ^ 8=g.os by omega]
  rfl
 have hbr:b=[31,139,8,(flagN g:Int)]++t4++[(g.xfl:Int),(g.os:Int)]++r:=by rw [hbb,h1,hr]
 have s1:(hdS b).s1=⟨1,0⟩:=by
  show thatS b ⟨0,0⟩ 31 8=_
  rw [that_is rfl (by rw [hbr];simp),if_pos (by rw [hbr];rfl)]
 have s2:(hdS b).s2=⟨2,0⟩:=by
  show thatS b (hdS b).s1 139 8=_
  rw [s1,that_is rfl (by rw [hbr];simp),if_pos (by rw [hbr];rfl)]
 have s3:(hdS b).s3=⟨3,0⟩:=by
  show thatS b (hdS b).s2 8 6=_
  rw [s2,that_is rfl (by rw [hbr];simp),if_pos (by rw [hbr];rfl)]
 have tf:=take_mid (b:=b) (pre:=[31,139,8]) (x:=[(flagN g:Int)]) (post:=t4++[(g.xfl:Int),(g.os:Int)]++r) (by rw [hbr];simp)
 have fl:(hdS b).fl=flagN g:=by
  show num (takeB b (hdS b).s3 1)=_
  rw [s3]
  have:=tf.1
  simp only [List.length_cons,List.length_nil] at this
  rw [this];simp [num]
 have s5:(hdS b).s5=⟨4,0⟩:=by
  show refS2 (takeS b (hdS b).s3 1) (decide (32≤(hdS b).fl)) 6=_
  rw [s3,fl]
  have:=tf.2
  simp only [List.length_cons,List.length_nil] at this
  rw [this,decide_eq_false (by omega)]
  unfold refS2
  rw [if_neg (by rintro ⟨_,k⟩;cases k)]
 have tt:=take_mid (b:=b) (pre:=[31,139,8,(flagN g:Int)]) (x:=t4) (post:=[(g.xfl:Int),(g.os:Int)]++r) (by rw [hbr];simp)
 rw [ht4l] at tt
 have s6:(hdS b).s6=⟨8,0⟩:=by
  show takeS b (hdS b).s5 4=_
  rw [s5];exact tt.2
 have tx:=take_mid (b:=b) (pre:=[31,139,8,(flagN g:Int)]++t4) (x:=[(g.xfl:Int)]) (post:=[(g.os:Int)]++r) (by rw [hbr];simp)
 rw [List.length_append,ht4l] at tx
 have s7:(hdS b).s7=⟨9,0⟩:=by
  show takeS b (hdS b).s6 1=_
  rw [s6];exact tx.2
 have tq:=take_mid (b:=b) (pre:=[31,139,8,(flagN g:Int)]++t4++[(g.xfl:Int)]) (x:=[(g.os:Int)]) (post:=r) (by rw [hbr];simp)
 rw [List.length_append,List.length_append,ht4l] at tq
 have s8:(hdS b).s8=⟨10,0⟩:=by
  show takeS b (hdS b).s7 1=_
  rw [s7];exact tq.2
 have hl1:(nb (gz1 g)).length=10:=by rw [h1];simp [ht4l]
 have hx:=gz_extra (b:=b) (pre:=nb (gz1 g)) (post:=nb (txtB g.name)++(nb (txtB g.comm)++(nb S++post))) hg (by rw [hbb];simp)
 rw [hl1] at hx
 have s9:(hdS b).s9=if (hdS b).fl / 4 % 2=1 then takeS b (hdS b).s8 2 else (hdS b).s8:=rfl
 have c4:(flagN g / 4 % 2=1)=(g.hasx=true):=by rw [← f3];simp
 have c8:(flagN g / 8 % 2=1)=((!g.name.isEmpty)=true):=by rw [← f4];simp
 have c16:(flagN g / 16 % 2=1)=((!g.comm.isEmpty)=true):=by rw [← f5];simp
 have c2:(flagN g / 2 % 2=1)=(g.sum=true):=by rw [← f2];simp
 have s10:(hdS b).s10=⟨(nb (gz1 g)++nb (gzX g)).length,0⟩:=by
  show (if (hdS b).fl / 4 % 2=1 then takeS b (if (hdS b).fl / 4 % 2=1 then takeS b (hdS b).s8 2 else (hdS b).s8) (num (takeB b (hdS b).s8 2)) else (hdS b).s8)=_
  rw [s8,fl,List.length_append,hl1,← hx.1]
  cases hh:g.hasx with
  | false=>rw [if_neg (by rw [c4,hh];decide),if_neg (by decide)]
  | true=>rw [if_pos (by rw [c4];exact hh),if_pos (by rw [c4];exact hh),if_pos rfl]
 have hn:=gz_text (b:=b) (pre:=nb (gz1 g)++nb (gzX g)) (post:=nb (txtB g.comm)++(nb S++post)) hg.name0 hg.name (by rw [hbb];simp)
 have s11:(hdS b).s11=⟨(nb (gz1 g)++nb (gzX g)++nb (txtB g.name)).length,0⟩:=by
  show (if (hdS b).fl / 8 % 2=1 then txtS b (hdS b).s10 else (hdS b).s10)=_
  rw [s10,fl,List.length_append (bs:=nb (txtB g.name)),← hn.1]
  simp only [c8]
 have hc:=gz_text (b:=b) (pre:=nb (gz1 g)++nb (gzX g)++nb (txtB g.name)) (post:=nb S++post) hg.comm0 hg.comm (by rw [hbb];simp)
 have s12:(hdS b).s12=⟨(nb (gz4 g)).length,0⟩:=by
  show (if (hdS b).fl / 16 % 2=1 then txtS b (hdS b).s11 else (hdS b).s11)=_
  rw [s11,fl,h4,List.length_append (bs:=nb (txtB g.comm)),← hc.1]
  simp only [c16]
 have h4b:b=nb (gz4 g)++nb S++post:=by rw [h4,hbb];simp
 have s14:(hdS b).s14=⟨(nb (gz4 g)).length+(nb S).length,0⟩:=by
  show (if (hdS b).fl / 2 % 2=1 then refS2 (takeS b (hdS b).s12 2) (decide ((takeS b (hdS b).s12 2).e=0∧num (takeB b (hdS b).s12 2)≠crc16 (b.take (hdS b).s12.at_))) 7 else (hdS b).s12)=_
  rw [s12,fl]
  cases hs:g.sum with
  | false=>
   have e:S=[]:=by rw [hS,hs];rfl
   rw [if_neg (by rw [c2,hs];decide),e]
   rfl
  | true=>
   have e:S=leB 2 (crc16 (nb (gz4 g))):=by rw [hS,hs];rfl
   rw [if_pos (by rw [c2];exact hs)]
   have hl:(nb S).length=2:=by rw [e,nb_len,leB_len]
   have t:=take_mid h4b
   rw [hl] at t ⊢
   have ht:b.take (nb (gz4 g)).length=nb (gz4 g):=by rw [h4b,List.append_assoc,List.take_left]
   rw [t.1,t.2,ht,e,leB_num 2 _ (by unfold crc16;omega)]
   unfold refS2
   rw [if_neg]
   rintro ⟨_,k⟩
   exact (of_decide_eq_true k).2 rfl
 refine ⟨?_,?_⟩
 ·rw [s14,h4]
  simp only [List.length_append,nb_len]
 ·have e7:num (takeB b (hdS b).s7 1)=g.os:=by rw [s7];have:=tq.1;simp only [List.length_cons,List.length_nil] at this;rw [this];simp [num]
  have e6:num (takeB b (hdS b).s6 1)=g.xfl:=by rw [s6];have:=tx.1;simp only [List.length_cons,List.length_nil] at this;rw [this];simp [num]
  have e5:num (takeB b (hdS b).s5 4)=g.time:=by rw [s5];have:=tt.1;simp only [List.length_cons,List.length_nil] at this;rw [this,ht4];exact leB_num 4 _ hg.time
  have ex:(if (hdS b).fl / 4 % 2=1 then un (takeB b (hdS b).s9 (num (takeB b (hdS b).s8 2))) else [])=g.extra:=by
   rw [s9,s8,fl]
   refine Eq.trans ?_ hx.2
   cases hh:g.hasx with
   | false=>rw [if_neg (by rw [c4,hh];decide),if_neg (by decide)]
   | true=>rw [if_pos (by rw [c4];exact hh),if_pos (by rw [c4];exact hh),if_pos rfl]
  have en:(if (hdS b).fl / 8 % 2=1 then un (txtR b (hdS b).s10) else [])=g.name:=by
   rw [s10,fl]
   refine Eq.trans ?_ hn.2
   simp only [c8]
  have ec:(if (hdS b).fl / 16 % 2=1 then un (txtR b (hdS b).s11) else [])=g.comm:=by
   rw [s11,fl]
   refine Eq.trans ?_ hc.2
   simp only [c16]
  have e:hdG b=⟨decide ((hdS b).fl % 2=1),decide ((hdS b).fl / 4 % 2=1),decide ((hdS b).fl / 2 % 2=1),(if (hdS b).fl / 4 % 2=1 then un (takeB b (hdS b).s9 (num (takeB b (hdS b).s8 2))) else []),
    (if (hdS b).fl / 8 % 2=1 then un (txtR b (hdS b).s10) else []),(if (hdS b).fl / 16 % 2=1 then un (txtR b (hdS b).s11) else []),num (takeB b (hdS b).s5 4),num (takeB b (hdS b).s6 1),num (takeB b (hdS b).s7 1)⟩:=rfl
  rw [e,e5,e6,e7,ex,en,ec,fl,f1,f2,f3]
theorem strOf_bytesG (l:List UInt8):strOfNums (l.map fun b=>(b.toNat:Int))=⟨l.toArray⟩:=by
 apply ByteArray.ext
 apply Array.ext'
 rw [strOfNums_data,List.map_map]
 have:(fun n:Int=>UInt8.ofNat n.toNat) ∘ (fun b:UInt8=>(b.toNat:Int))=id:=by
  funext b;simp
 rw [this];simp
def strB (l:List UInt8):ByteArray:=⟨l.toArray⟩
theorem strB_of (s:ByteArray):strB s.data.toList=s:=by cases s;rfl
theorem strB_size (l:List UInt8):(strB l).size=l.length:=by simp [strB,ByteArray.size]
theorem strB_list (l:List UInt8):(strB l).toList=l:=by rw [Lib.toList_data];rfl
theorem strB_app (a b:List UInt8):strB a++strB b=strB (a++b):=ByteArray.mk_append_mk a b
theorem strB_extract (l:List UInt8)(a b:Nat):(strB l).extract a b=strB ((l.drop a).take (b - a)):=by
 apply ByteArray.ext
 apply Array.ext'
 rw [← Lib.toList_data,Lib.extract_toList]
 rfl
theorem nb_strG (L:List UInt8):strOfNums (nb L)=strB L:=strOf_bytesG L
theorem byteCells_strB (L:List UInt8):byteCells (strB L)=bc L:=rfl
theorem wpList_by_str {w:World}{ops:Array Oper}{rest:List Oper}{o:Oper}{act:Act}{Q:Exit→Act→World→Prop}(hgd:o.guard=none)(s x:Operand)
  (ho:o.op = .call { callee := .builtin .append,args:=#[s,x],argTypes:=#[22,9] })
  {w0:World} {a:Option Addr} {l c:Nat} {L:List UInt8} (hS:BySt w0 w a l c L) (hs:act.eval s = .slice a l c) (X:ByteArray) (M:List UInt8) (hX:X=strB M) (hx:act.eval x = .string X) (h0:M≠[]) (hn:l+M.length≤100000000)
  (h:∀ a2 c2 w',BySt w0 w' a2 (l+M.length) c2 (L++M)→wpList Tryz.prog ops Q rest (act.put o.dst (.slice a2 (l+M.length) c2)) w'):wpList Tryz.prog ops Q (o :: rest) act w:=by
 subst hX
 have hsz:=strB_size M
 have h00:0 < M.length:=by cases M with | nil=>exact absurd rfl h0 | cons _ _=>simp
 refine wpList_app_str hgd s x 22 9 ho Tryz.underlying22 Tryz.underlying9 _ l (bc L) hs hS.own (strB M) hx (by omega) (by omega) ?_
 intro v' w' h2 h3 h4
 rw [byteCells_strB,hsz] at h2
 obtain ⟨a2,c2,rfl,hb⟩:=hS.grow h2 rfl h3 h4
 rw [hsz] at *
 exact h _ _ _ hb
theorem u8_zeroG {x:Int}(h:0≤x∧x < 256):(x.toNat.toUInt8 == (0:UInt8))=(x == 0):=by
 rw [Bool.eq_iff_iff]
 simp only [beq_iff_eq]
 constructor
 ·intro e
  have:=congrArg UInt8.toNat e
  simp at this
  omega
 ·intro e;subst e;rfl
def ixZ (l:List Int):Int:=if zeroAt l=l.length then -1 else (zeroAt l:Int)
theorem ixZ_index:∀ l:List Int,AllB l→Lib.indexByte (Lib.bytesOf l) 0=ixZ l
 | [],_=>rfl
 | b :: l,h=>by
  have hz:=u8_zeroG (h b List.mem_cons_self)
  have e:Lib.bytesOf (b :: l)=b.toNat.toUInt8 :: Lib.bytesOf l:=rfl
  have ih:=ixZ_index l (fun x hx=>h x (List.mem_cons_of_mem _ hx))
  rw [e,Lib.indexByte,hz]
  unfold ixZ at ih ⊢
  rw [zeroAt,List.length_cons]
  by_cases h0:b=0
  ·subst h0
   rw [if_pos (show ((0:Int) == 0)=true from rfl),if_pos (show (0:Int)=0 from rfl),if_neg (show ¬ 0=l.length+1 by omega)]
   rfl
  ·have h0':(b == 0)=false:=by simpa using h0
   rw [h0',if_neg (show ¬ false=true by decide),if_neg h0,ih]
   by_cases hl:zeroAt l=l.length
   ·rw [if_pos hl,if_pos (show zeroAt l+1=l.length+1 by omega)]
    rfl
   ·rw [if_neg hl,if_neg (show ¬ zeroAt l+1=l.length+1 by omega),if_neg (by simp only [beq_iff_eq];omega)]
    push_cast;rfl
theorem ixZ_none {L:List UInt8}(h:0 ∉ L):ixZ (nb L) = -1:=by
 have:∀ l:List Int,(0:Int) ∉ l→zeroAt l=l.length:=by
  intro l
  induction l with
  | nil=>intro _;rfl
  | cons x r ih=>
   intro hx
   have h0:x≠0:=fun e=>hx (by simp [e])
   rw [zeroAt,if_neg h0,ih (fun k=>hx (List.mem_cons_of_mem _ k)),List.length_cons]
 unfold ixZ
 rw [if_pos (this _ (nb_zero h))]
theorem ixb_any (ao:Option Addr)(n c:Nat)(bs:List Int)(w:World)(hn:n=bs.length)(hb:AllB bs)(hr:Reads w ao bs):
  Calls Tryz.prog 112 #[.slice ao n c,.int .u8 0] w fun e w'=>e = .returned (.int .i64 (ixZ bs))∧w'=w:=by
 subst hn
 rw [← ixZ_index bs hb]
 have hx:(Extern.BytealgIndexByte.indexByte #[.slice ao bs.length c,.int .u8 0]).run Tryz.prog w = .ok (.int .i64 (Lib.indexByte (Lib.bytesOf bs) 0)) w:=by
  by_cases h0:bs=[]
  ·subst h0
   cases ao with
   | none=>exact Lib.run_indexByteNil (P:=Tryz.prog) (w:=w) 0 c 0
   | some a=>exact (Lib.run_indexByteString (P:=Tryz.prog) .empty 0 w:_)
  ·obtain ⟨b,off,rfl,_,hc⟩:=hr.at (by cases bs with | nil=>exact absurd rfl h0 | cons=>simp)
   exact Lib.run_indexByteSlice (P:=Tryz.prog) w b off bs.length c bs rfl hc 0
 have HX:=Hd hx
 clear hx hr hb
 generalize Lib.indexByte (Lib.bytesOf bs) 0=z at HX ⊢
 go_enter Tryz.func112,Tryz.ntmps112
 go_wp2
 rw [run_callFunc_extern Tryz.func137 (by kernel_rfl) (by kernel_rfl) (by kernel_rfl) (e:=Extern.BytealgIndexByte.indexByte) (by kernel_rfl),HX.out]
 simp only [Result.andThen]
 rw [Oper.upon_value]
 go_wp2
 go_ret
 exact ⟨rfl,rfl⟩
def OwnM (w:World)(v:Value)(bs:List Int):Prop:=
 (v = .slice none 0 0∧bs=[])∨∃ g cap cur fz,v = .slice (some ⟨g,0,none⟩) bs.length cap∧w.heap[g]?=some (.cells cur 5 fz)∧(cur.size≤fz.1∨fz.2=0)∧bs.length≤cap∧cap≤maxLen∧cur.size=cap∧cur.toList.take bs.length=bs.map (.int .u8)
theorem OwnM.cellAt {w:World}{g cap:Nat}{bs:List Int}(h:OwnM w (.slice (some ⟨g,0,none⟩) bs.length cap) bs)(j:Nat)(hj:j < bs.length):w.cell? ⟨g,j,none⟩=some (.int .u8 (bs.getD j 0)):=by
 rcases h with ⟨h1,_⟩ | ⟨g',cap',cur,fz,h1,h2,_,_,_,_,h3⟩
 ·simp at h1
 ·simp at h1
  obtain ⟨rfl,rfl⟩:=h1
  rw [cell_of_row w g j cur _ fz h2]
  have e:=congrArg (fun l=>l[j]?) h3
  simp only [List.getElem?_take,if_pos hj] at e
  rw [← Array.getElem?_toList,e]
  simp [List.getD,hj]
theorem OwnM.reads {w:World}{ao:Option Addr}{cap:Nat}{bs:List Int}(h:OwnM w (.slice ao bs.length cap) bs):Reads w ao bs:=by
 refine ⟨fun e=>?_,fun a e i hi=>?_⟩
 ·subst e
  rcases h with ⟨_,h2⟩ | ⟨g',cap',cur,fz,h1,_⟩
  ·exact h2
  ·simp at h1
 ·subst e
  obtain ⟨g,rfl⟩:∃ g,a=⟨g,0,none⟩:=by
   rcases h with ⟨h1,_⟩ | ⟨g',cap',cur,fz,h1,_⟩
   ·simp at h1
   ·simp at h1;exact ⟨g',h1.1⟩
  rw [addr_add,Nat.zero_add]
  exact h.cellAt i hi
theorem conv_mark (w:World)(bs:List Int)(h:bs.length≤1000000)(hb:AllB bs):
  ∃ cap w',(convert 9 22 (.string (strOfNums bs))).run Tryz.prog w = .ok (.slice (some ⟨w.heap.size,0,none⟩) bs.length cap) w'∧OwnM w' (.slice (some ⟨w.heap.size,0,none⟩) bs.length cap) bs∧Kept NoB w w':=by
 have hr:=run_bytes_of_string (P:=Tryz.prog) w 9 22 5 (strOfNums bs) Tryz.underlying9 Tryz.underlying22 Tryz.underlying5
 rw [strOfNums_size] at hr
 refine ⟨_,_,hr,.inr ⟨w.heap.size,_,_,_,rfl,heap_alloc_new w.drew _,.inl (Nat.le_refl _),grownCap_ge _ _ _ _,grownCap_le_maxLen _ _ _ _ (by unfold maxLen;omega),?_,?_⟩,((Kept.refl NoB w).drew).alloc _⟩
 ·have:=grownCap_ge w bs.length 0 5
  have hs:(strOfNums bs).data.size=bs.length:=strOfNums_size bs
  unfold bytesRow
  rw [Array.size_append,Array.size_map,Array.size_replicate,strOfNums_size,hs]
  omega
 ·have hs:(strOfNums bs).data.size=bs.length:=strOfNums_size bs
  unfold bytesRow
  rw [Array.toList_append,List.take_append_of_le_length (by simp [hs]),List.take_of_length_le (by simp [hs])]
  rw [Array.toList_map,strOfNums_data,List.map_map]
  apply List.map_congr_left
  intro b hbm
  have:=hb b hbm
  simp
  omega
theorem xorP_u32 (r:Nat)(h:r < 4294967296):bits .xor .u32 (r:Int) 3988292384=((r ^^^ poly:Nat):Int):=u32_xor_nat r poly h poly_lt
theorem half_int (r:Nat):(r:Int) / 2=((r / 2:Nat):Int):=by push_cast;rfl
theorem shifted_any (x:Nat)(w:World)(h:x < 4294967296):Calls Tryz.prog 76 #[.int .u32 x] w fun e w'=>e = .returned (.int .u32 (steps 8 x:Nat))∧w=w':=by
 go_enter Tryz.func76,Tryz.ntmps76
 go_wp2
 go_loop [0,4] (fun r i=>∃ k:Nat,k≤8∧i = .int .i64 k∧r = .int .u32 (steps k x:Nat)) (fun _ i=>8 - (intOf i).toNat)
 case atStart=>exact ⟨0,by omega,rfl,rfl⟩
 case round=>
  obtain ⟨k,hk,rfl,rfl⟩:=hrel
  by_cases hlt:k < 8
  ·have hl:=steps_lt k x h
   have HS:Hid (steps (k+1) x=step1 (steps k x)):=rfl
   generalize steps k x=r at hl HS ⊢
   have e3:bits .xor .u32 ((r:Int) / 2) 3988292384=((r / 2 ^^^ poly:Nat):Int):=by rw [half_int];exact xorP_u32 (r / 2) (by omega)
   by_cases ho:r % 2=1
   ·have E:Hid (step1 r=r / 2 ^^^ poly):=by show step1 r=_;unfold step1;rw [if_pos ho]
    have e1:bits .and .u32 (r:Int) 1=1:=by rw [and1_u32 r hl,ho];rfl
    clear ho hl
    go_wp2
    go_round
    case rel=>exact ⟨k+1,by omega,by go_num,by rw [HS.out,E.out]⟩
    case measure=>simp [intOf];omega
   ·have E:Hid (step1 r=r / 2):=by show step1 r=_;unfold step1;rw [if_neg ho]
    have h0:r % 2=0:=by omega
    have e1:bits .and .u32 (r:Int) 1=0:=by rw [and1_u32 r hl,h0];rfl
    clear ho h0 hl
    go_wp2
    go_round
    case rel=>exact ⟨k+1,by omega,by go_num,by rw [HS.out,E.out];go_num⟩
    case measure=>simp [intOf];omega
  ·go_wp2
   go_ret
   exact ⟨by rw [show k=8 from by omega];rfl,rfl⟩
def tblTo (i:Nat):Array Value:=((List.range 256).map fun j=>Value.int .u32 (if j < i then steps 8 j else 0:Nat)).toArray
def Tbl (w:World)(T:Nat):Prop:=w.heap[T]?=some (.cells (tblTo 256) 137 (0,0))
theorem tblTo_set (i:Nat)(hi:i < 256):(tblTo i).setIfInBounds i (.int .u32 (steps 8 i:Nat))=tblTo (i+1):=by
 apply Array.ext
 ·simp [tblTo]
 ·intro j h1 h2
  simp [tblTo] at h1 h2
  simp only [tblTo,List.getElem_toArray,List.getElem_map,List.getElem_range]
  by_cases hj:i=j
  ·subst hj;simp
  ·have:(j < i)=(j < i+1):=by apply propext;omega
   simp [hj,this]
theorem tblTo_get (i j:Nat)(hj:j < 256):(tblTo i)[j]?=some (.int .u32 (if j < i then steps 8 j else 0:Nat)):=by
 simp [tblTo,hj]
theorem zeroTbl (w:World):(zeroValue 137).run Tryz.prog w = .ok (.agg (tblTo 0)) w:=by kernel_rfl
def NewT (w:World)(e:Ending)(w':World):Prop:=∃ T,e = .returned (.pointer (some ⟨T,0,none⟩))∧Tbl w' T∧w.heap.size≤T∧Kept NoB w w'
set_option maxRecDepth 100000 in
theorem newt_any (w:World):Calls Tryz.prog 43 #[] w (NewT w):=by
 have hz:=fun w=>zeroTbl w
 obtain ⟨t0,ht0⟩:∃ t,t=tblTo 0:=⟨_,rfl⟩
 rw [← ht0] at hz
 have HT0:=Hd ht0;clear ht0
 go_enter Tryz.func43,Tryz.ntmps43
 go_wp2
 go_loopw [5] (fun i wr=>∃ k:Nat,k≤256∧i = .int .i64 k∧wr.heap[w.heap.size]?=some (.cells (tblTo k) 137 (0,0))∧Kept NoB w wr) (fun i _=>256 - (intOf i).toNat)
 case atStart=>exact ⟨0,by omega,rfl,by rw [← HT0.out];exact heap_alloc_new _ _,(Kept.refl _ _).alloc _⟩
 case round=>
  obtain ⟨k,hk,rfl,ho,hK⟩:=hrel
  by_cases hlt:k < 256
  ·have c0:wr.cell? ⟨w.heap.size,k,none⟩=some (.int .u32 (0:Nat)):=by rw [obj_cell ho,tblTo_get k k hlt];simp
   have f0:wr.frozen? ⟨w.heap.size,k,none⟩=false:=obj_free ho k
   have HO:=Hd ho;clear ho
   go_wp2
   have q0:IntKind.u32.wrap (k:Int)=k:=by rw [IntKind.wrap_u32'];omega
   have HS:=fun w=>shifted_any k w (by omega)
   have HSh:=Hd HS;clear HS
   go_region_with (go_at_call 76;((with_reducible refine (HSh.out _).mono ?_);rintro e w' ⟨rfl,rfl⟩))
   go_wp2
   go_roundw
   case rel=>
    refine ⟨k+1,by omega,by go_num,?_,Kept.drew (Kept.setCell (p:=⟨w.heap.size,k,none⟩) hK (.inr (Nat.le_refl _)) _)⟩
    have:=obj_set HO.out k (.int .u32 (steps 8 k:Nat))
    rw [tblTo_set k hlt] at this
    exact this
   case measure=>simp [intOf];omega
  ·go_wp2
   go_ret
   have:k=256:=by omega
   subst this
   exact ⟨w.heap.size,rfl,ho,Nat.le_refl _,hK⟩
theorem nats_lt {bs:List Int}(h:AllB bs):∀ x∈nats bs,x < 256:=by
 intro x hx
 obtain ⟨b,hb,rfl⟩:=List.mem_map.1 hx
 have:=h b hb
 omega
theorem regOf_succ (r:Nat)(bs:List Int)(j:Nat)(hj:j < bs.length):regOf r ((nats bs).take (j+1))=upd (regOf r ((nats bs).take j)) (bs.getD j 0).toNat:=by
 have hl:j < (nats bs).length:=by simpa [nats] using hj
 rw [List.take_succ_eq_append_getElem hl,regOf_append]
 simp [regOf,nats,List.getD,hj]
theorem flip_u32 (c:Nat)(h:c < 4294967296):bits .xor .u32 IntKind.u32.max (c:Int)=((flip c:Nat):Int):=by
 show IntKind.u32.wrap ((BitVec.ofInt 32 IntKind.u32.max ^^^ BitVec.ofInt 32 (c:Int)).toNat:Int)=_
 have e:BitVec.ofInt 32 IntKind.u32.max=BitVec.allOnes 32:=by decide
 rw [e,← BitVec.not_def,BitVec.toNat_not,ofInt_u32 c h,IntKind.wrap_u32']
 unfold flip
 omega
theorem upd_u32 (r z:Nat)(hr:r < 4294967296)(hz:z < 256):bits .xor .u32 ((r:Int) / 256) ((steps 8 (r % 256 ^^^ z):Nat):Int)=((upd r z:Nat):Int):=by
 have h1:((r:Int) / 256)=((r / 256:Nat):Int):=(Int.natCast_ediv r 256).symm
 have h2:r % 256 ^^^ z < 256:=Nat.xor_lt_two_pow (n:=8) (Nat.mod_lt _ (by decide)) hz
 rw [h1,u32_xor_nat _ _ (by omega) (steps_lt 8 _ (by omega))]
 rfl
theorem update_any (w:World)(T:Nat)(ao:Option Addr)(cap len c:Nat)(bs:List Int)(hT:Tbl w T)(hr:Reads w ao bs)(hb:AllB bs)(hlen:bs.length=len)(hc:c < 4294967296)(hm:len≤9223372036854775807):
  Calls Tryz.prog 77 #[.pointer (some ⟨T,0,none⟩),.int .u32 c,.slice ao len cap] w fun e w'=>e = .returned (.int .u32 (crcOf c (nats bs):Nat))∧Kept NoB w w':=by
 have HLen:=Hd hlen;clear hlen
 have HB:=Hd hb;clear hb
 have HR:=Hd hr;clear hr
 have HT:=Hd hT;clear hT
 have e1:=flip_u32 c hc
 clear hc
 go_enter Tryz.func77,Tryz.ntmps77
 go_wp2
 clear e1
 go_loop [7,14] (fun r i=>∃ j:Nat,j≤len∧i = .int .i64 j∧r = .int .u32 (regOf (flip c) ((nats bs).take j):Nat)) (fun _ i=>len - (intOf i).toNat)
 case atStart=>exact ⟨0,by omega,rfl,by simp [regOf]⟩
 case round=>
  obtain ⟨j,hj,rfl,rfl⟩:=hrel
  by_cases hlt:j < len
  ·obtain ⟨b,off,rfl,hbl,hcell⟩:=HR.out.at (by have:=HLen.out;omega)
   have hz:=hcell j (by have:=HLen.out;omega)
   have hs:=regOf_succ (flip c) bs j (by have:=HLen.out;omega)
   have hzb:=AllB.getD HB.out j
   have hrl:regOf (flip c) ((nats bs).take j) < 4294967296:=regOf_lt _ _ (flip_lt c) (fun x hx=>nats_lt HB.out x (List.mem_of_mem_take hx))
   obtain ⟨z,hzz⟩:∃ z:Nat,bs.getD j 0=(z:Int):=⟨_,(Int.toNat_of_nonneg hzb.1).symm⟩
   rw [hzz] at hz hs hzb
   rw [Int.toNat_natCast] at hs
   have HS:=Hd hs;clear hs hzz hcell
   generalize regOf (flip c) ((nats bs).take j)=r at hrl HS ⊢
   have hz256:z < 256:=by omega
   have hx:r % 256 ^^^ z < 256:=Nat.xor_lt_two_pow (n:=8) (Nat.mod_lt _ (by decide)) hz256
   have ex:bits .xor .u8 ((r:Int) % 256) (z:Int)=((r % 256 ^^^ z:Nat):Int):=u8_xor_nat (r % 256) z (Nat.mod_lt _ (by decide)) hz256
   have eu:=upd_u32 r z hrl hz256
   have hcT:w.cell? ⟨T,r % 256 ^^^ z,none⟩=some (.int .u32 (steps 8 (r % 256 ^^^ z):Nat)):=by
    rw [obj_cell HT.out,tblTo_get 256 _ hx,if_pos hx]
   generalize r % 256 ^^^ z=q at hx ex eu hcT
   generalize steps 8 q=sq at eu hcT
   clear hrl hzb
   go_wp2
   go_round
   case rel=>exact ⟨j+1,by omega,by go_num,by rw [HS.out]⟩
   case measure=>simp [intOf];omega
  ·have hjl:j=len:=by omega
   have hlt2:regOf (flip c) ((nats bs).take j) < 4294967296:=regOf_lt _ _ (flip_lt c) (fun x hx=>nats_lt HB.out x (List.mem_of_mem_take hx))
   have e2:=flip_u32 _ hlt2
   have hfin:crcOf c (nats bs)=flip (regOf (flip c) ((nats bs).take j)):=by
    unfold crcOf
    rw [List.take_of_length_le (by have:=HLen.out;simp [nats];omega)]
   have HF:=Hd hfin;clear hfin hjl
   generalize regOf (flip c) ((nats bs).take j)=r at e2 HF hlt2 ⊢
   clear hlt2
   go_wp2
   go_ret
   exact ⟨by rw [HF.out];rfl,Kept.refl _ _⟩
def Parts (w:World)(po:Option Addr)(ps:List (List Int)):Prop:=
 ps=[]∨∃ b off,po=some ⟨b,off,none⟩∧b < w.heap.size∧∀ i,i < ps.length→∃ ao cap,w.cell? ⟨b,off+i,none⟩=some (.slice ao (ps.getD i []).length cap)∧Reads w ao (ps.getD i [])∧(ps.getD i []).length≤cap∧cap≤maxLen∧(ao=none→cap=0)
def AllP (ps:List (List Int)):Prop:=∀ p∈ps,AllB p
theorem Parts.keptNo {w w':World}{po:Option Addr}{ps:List (List Int)}(h:Parts w po ps)(hk:Kept NoB w w'):Parts w' po ps:=by
 rcases h with h | ⟨b,off,h1,h2,h3⟩
 ·exact .inl h
 ·refine .inr ⟨b,off,h1,Nat.lt_of_lt_of_le h2 hk.size,fun i hi=>?_⟩
  obtain ⟨ao,cap,c,r,m⟩:=h3 i hi
  exact ⟨ao,cap,hk.cell c,r.keptNo hk,m⟩
theorem Tbl.keptNo {w w':World}{T:Nat}(h:Tbl w T)(hk:Kept NoB w w'):Tbl w' T:=hk.obj h (fun h=>h)
theorem AllP.getD {ps:List (List Int)}(h:AllP ps)(i:Nat):AllB (ps.getD i []):=by
 by_cases hi:i < ps.length
 ·have:ps.getD i []=ps[i]:=by simp [List.getD,hi]
  rw [this];exact h _ (List.getElem_mem hi)
 ·have:ps.getD i []=[]:=by simp [List.getD,List.getElem?_eq_none (Nat.le_of_not_lt hi)]
  rw [this];intro b hb;cases hb
theorem AllP.flat {ps:List (List Int)}(h:AllP ps):AllB ps.flatten:=by
 intro b hb
 obtain ⟨p,hp,hbp⟩:=List.mem_flatten.1 hb
 exact h p hp b hbp
theorem nats_append (a b:List Int):nats (a++b)=nats a++nats b:=List.map_append
theorem flat_succ (ps:List (List Int))(j:Nat)(hj:j < ps.length):(ps.take (j+1)).flatten=(ps.take j).flatten++ps.getD j []:=by
 have e:ps.getD j []=ps[j]:=by simp [List.getD,hj]
 rw [e,List.take_succ_eq_append_getElem hj,List.flatten_append,List.flatten_cons,List.flatten_nil,List.append_nil]
theorem crc_start:crcOf 0 (nats ([]:List (List Int)).flatten)=0:=crcOf_nil 0 (by decide)
theorem sum_any (w:World)(T:Nat)(po:Option Addr)(cap len:Nat)(ps:List (List Int))(hT:Tbl w T)(hr:Parts w po ps)(hb:AllP ps)(hlen:ps.length=len)(hm:len≤9223372036854775807):
  Calls Tryz.prog 44 #[.pointer (some ⟨T,0,none⟩),.slice po len cap] w fun e w'=>e = .returned (.int .u32 (crcOf 0 (nats ps.flatten):Nat))∧Kept NoB w w':=by
 have HLen:=Hd hlen;clear hlen
 have HB:=Hd hb;clear hb
 have HR:=Hd hr;clear hr
 have HT:=Hd hT;clear hT
 go_enter Tryz.func44,Tryz.ntmps44
 go_wp2
 go_loopw [5,10] (fun r i wr=>∃ j:Nat,j≤len∧i = .int .i64 j∧r = .int .u32 (crcOf 0 (nats (ps.take j).flatten):Nat)∧Kept NoB w wr) (fun _ i _=>len - (intOf i).toNat)
 case atStart=>exact ⟨0,by omega,rfl,by rw [List.take_zero,crc_start];rfl,Kept.refl _ _⟩
 case round=>
  obtain ⟨j,hj,rfl,rfl,hk⟩:=hrel
  by_cases hlt:j < len
  ·have hjp:j < ps.length:=by have:=HLen.out;omega
   rcases HR.out.keptNo hk with h0 | ⟨b,off,rfl,hbl,hc⟩
   ·rw [h0] at hjp;simp at hjp
   ·obtain ⟨ao,cp,c0,hrd,hlc,hcm,_⟩:=hc j hjp
    have hAll:=AllP.getD HB.out j
    have hstep:crcOf 0 (nats (ps.take (j+1)).flatten)=crcOf (crcOf 0 (nats (ps.take j).flatten)) (nats (ps.getD j [])):=by
     rw [flat_succ ps j hjp,nats_append,crcOf_append]
     exact nats_lt (AllP.flat (fun p hp=>HB.out p (List.mem_of_mem_take hp)))
    have hcl:=crcOf_lt 0 (nats (ps.take j).flatten)
    have HS:=Hd hstep;clear hstep
    generalize crcOf 0 (nats (ps.take j).flatten)=cr at HS hcl ⊢
    generalize ps.getD j []=part at c0 hrd hlc hAll HS
    have HRd:=Hd hrd;have HAll:=Hd hAll;have HCl:=Hd hcl
    have HTk:=Hd (HT.out.keptNo hk)
    clear hrd hAll hcl hc hjp
    go_wp2_with fail
    refine (update_any _ T _ _ _ _ part HTk.out HRd.out HAll.out rfl HCl.out (by unfold maxLen at hcm;omega)).mono ?_
    rintro e w2 ⟨rfl,hk2⟩
    go_wp2
    go_roundw
    case rel=>exact ⟨j+1,by omega,by go_num,by rw [HS.out],hk.trans hk2⟩
    case measure=>simp [intOf];omega
  ·go_wp2
   go_ret
   exact ⟨by rw [List.take_of_length_le (by have:=HLen.out;omega)];rfl,hk⟩
theorem i64_mask (n:Int)(k:Nat)(hk:k≤62):bits .and .i64 n ((2 ^ k - 1:Nat):Int)=n % ((2 ^ k:Nat):Int):=by
 have h1:1≤2 ^ k:=Nat.one_le_two_pow
 have h2:2 ^ k≤2 ^ 62:=pow_le_pow2 hk
 have ha:(BitVec.ofInt 64 ((2 ^ k - 1:Nat):Int)).toNat=2 ^ k - 1:=by
  rw [BitVec.ofInt_natCast,BitVec.toNat_ofNat];exact Nat.mod_eq_of_lt (by omega)
 show IntKind.i64.wrap ((BitVec.ofInt 64 n &&& BitVec.ofInt 64 ((2 ^ k - 1:Nat):Int)).toNat:Int)=_
 rw [BitVec.toNat_and,ha,Nat.and_two_pow_sub_one_eq_mod]
 have hm:(((BitVec.ofInt 64 n).toNat:Nat):Int)=n % 18446744073709551616:=by
  rw [BitVec.toNat_ofInt]
  omega
 have hlt:(BitVec.ofInt 64 n).toNat % 2 ^ k < 2 ^ k:=Nat.mod_lt _ (by omega)
 rw [IntWalk.i64_in _ (by omega),Int.natCast_emod,hm]
 exact Int.emod_emod_of_dvd n (Int.ofNat_dvd.2 (show 2 ^ k ∣ 2 ^ 64 from Nat.pow_dvd_pow 2 (by omega)))
def RdI (w:World)(B:Nat)(ao:Option Addr)(zs:List Int):Prop:=
 ∀ i,i < zs.length→∃ g off,ao=some ⟨g,off,none⟩∧g < B∧w.cell? ⟨g,off+i,none⟩=some (.int .i64 (zs.getD i 0))
theorem RdI.kept {S:Nat→Prop}{w w':World}{B:Nat}{ao:Option Addr}{zs:List Int}(h:RdI w B ao zs)(hk:Kept S w w')(hs:∀ k,k < B→¬ S k):RdI w' B ao zs:=by
 intro i hi
 obtain ⟨g,off,h1,h2,h3⟩:=h i hi
 exact ⟨g,off,h1,h2,(World.cell?_of_block (hk.block _ (World.block_lt_of_cell? w _ h3) (hs g h2))).trans h3⟩
theorem RdI.room {w:World}{B:Nat}{ao:Option Addr}{zs:List Int}(h:RdI w B ao zs):RdI w w.heap.size ao zs:=by
 intro i hi
 obtain ⟨g,off,h1,h2,h3⟩:=h i hi
 exact ⟨g,off,h1,World.block_lt_of_cell? w _ h3,h3⟩
def AllI (zs:List Int):Prop:=∀ z∈zs,-9223372036854775808≤z∧z≤9223372036854775807
end Go.Proofs.YtfmjfgmbjdhogaaGreatDoor
