import Derived.WalkKit
import Derived.WalkSpells
import Derived.WalkLawsBesides
import Derived.Deep.QuietTactic
import Derived.BigQuiet
import Derived.Lib.Hide
import Derived.Lib.Endian
import Derived.Lib.TrailingZeros
import Derived.Laws.BitsAllLaws
import Derived.Test.YtfmjfgmbjdhogaaGreatDoorRows
import Derived.ProofKit
import Derived.OpenShut
import Derived.ShutString
import Derived.ChangeOld
import Derived.Deep.Slices
import Derived.Deep.Fields
import Derived.Deep.DeepCutAuto
import Derived.Deep.RegionHeld3
import Derived.BigRegion
import Derived.Laws.BytesArg
import Derived.Laws.AppendOwnNone
set_option linter.unusedVariables false
set_option linter.unusedSimpArgs false
set_option maxRecDepth 20000
set_option maxHeartbeats 8000000
namespace Go.Proofs.YtfmjfgmbjdhogaaGreatDoor
open Go.RowKit
theorem Hd{p:Prop}(h:p):Hid p:=Lib.hid h
structure Kept (S:Nat→Prop)(w w':World):Prop where
 os:w'.os=w.os
 tape:w'.tape=w.tape
 output:w'.output=w.output
 size:w.heap.size≤w'.heap.size
 block:∀ k,k < w.heap.size→¬ S k→w'.heap[k]?=w.heap[k]?
def NoB:Nat→Prop:=fun _=>False
def OneB (r:Nat):Nat→Prop:=fun k=>k=r
def TwoB (r s:Nat):Nat→Prop:=fun k=>k=r∨k=s
def OwnB (v:Value):Nat→Prop:=fun k=>v.ownBlock=some k
def OrB (S T:Nat→Prop):Nat→Prop:=fun k=>S k∨T k
theorem Kept.refl (S:Nat→Prop)(w:World):Kept S w w:=⟨rfl,rfl,rfl,Nat.le_refl _,fun _ _ _=>rfl⟩
theorem Kept.trans {S:Nat→Prop}{a b c:World}(h:Kept S a b)(k:Kept S b c):Kept S a c:=
 ⟨k.os.trans h.os,k.tape.trans h.tape,k.output.trans h.output,Nat.le_trans h.size k.size,fun i hi hs=>(k.block i (Nat.lt_of_lt_of_le hi h.size) hs).trans (h.block i hi hs)⟩
theorem Kept.mono {S T:Nat→Prop}{a b:World}(h:Kept S a b)(hs:∀ k,k < a.heap.size→S k→T k):Kept T a b:=
 ⟨h.os,h.tape,h.output,h.size,fun i hi ht=>h.block i hi (fun s=>ht (hs i hi s))⟩
theorem Kept.drew {S:Nat→Prop}{a b:World}(h:Kept S a b):Kept S a b.drew:=⟨h.os,h.tape,h.output,h.size,h.block⟩
theorem Kept.drewN {S:Nat→Prop}{a b:World}(h:Kept S a b)(n:Nat):Kept S a (b.drewN n):=⟨h.os,h.tape,h.output,h.size,h.block⟩
theorem Kept.setCell {S:Nat→Prop}{a b:World}(h:Kept S a b){p:Addr}(hp:S p.block∨a.heap.size≤p.block)(u:Value):Kept S a (b.setCell p u):=
 ⟨h.os,h.tape,h.output,by simpa using h.size,fun i hi hs=>(Below.heap_setCell _ _ _ _ (fun e=>by rcases hp with hp | hp;exact hs (e ▸ hp);omega)).trans (h.block i hi hs)⟩
theorem Kept.alloc {S:Nat→Prop}{a b:World}(h:Kept S a b)(o:Obj):Kept S a (b.alloc o):=
 ⟨h.os,h.tape,h.output,by have:=h.size;simp;omega,fun i hi hs=>(Below.heap_alloc _ _ _ (Nat.lt_of_lt_of_le hi h.size)).trans (h.block i hi hs)⟩
theorem Kept.grown {S:Nat→Prop}{a b c:World}(h:Kept S a b){row:Option Nat}(g:b.grownBy c row)(hr:∀ k,k < a.heap.size→row=some k→S k):Kept S a c:=
 ⟨g.os.trans h.os,g.tape.trans h.tape,g.output.trans h.output,Nat.le_trans h.size g.size,
  fun i hi hs=>(g.block i (Nat.lt_of_lt_of_le hi h.size) (fun e=>hs (hr i hi e.symm))).trans (h.block i hi hs)⟩
theorem Kept.ofBelow {S:Nat→Prop}{a b c:World}(h:Kept S a b)(g:Below b.heap.size b c):Kept S a c:=
 ⟨g.os.trans h.os,g.tape.trans h.tape,g.output.trans h.output,Nat.le_trans h.size g.size,
  fun i hi hs=>(g.block i (Nat.lt_of_lt_of_le hi h.size)).trans (h.block i hi hs)⟩
theorem Kept.below {S:Nat→Prop}{w a b:World}(h:Kept S a b)(hb:Below w.heap.size w a)(hs:∀ k,S k→w.heap.size≤k):Below w.heap.size w b:=
 ⟨h.os.trans hb.os,h.tape.trans hb.tape,h.output.trans hb.output,Nat.le_trans hb.size h.size,
  fun i hi=>(h.block i (Nat.lt_of_lt_of_le hi hb.size) (fun s=>by have:=hs i s;omega)).trans (hb.block i hi)⟩
theorem Kept.belowNo {w a b:World}(h:Kept NoB a b)(hb:Below w.heap.size w a):Below w.heap.size w b:=h.below hb (fun _ s=>s.elim)
theorem Kept.row {S:Nat→Prop}{a b:World}(h:Kept S a b){base e size n:Nat}{v:Value}{xs:List Value}(ho:a.ownsRow base e size v n xs)(hs:∀ k,v.ownBlock=some k→¬ S k):b.ownsRow base e size v n xs:=by
 refine ⟨ho.1,?_⟩
 rcases ho.2 with hn | ⟨g,cap,cur,rfl,hb,hg,rest⟩
 ·exact .inl hn
 ·exact .inr ⟨g,cap,cur,rfl,hb,(h.block g (Array.getElem?_eq_some_iff.1 hg).1 (hs g rfl)).trans hg,rest⟩
theorem Kept.obj {S:Nat→Prop}{a b:World}(h:Kept S a b){R:Nat}{o:Obj}(ho:a.heap[R]?=some o)(hs:¬ S R):b.heap[R]?=some o:=
 (h.block R (Array.getElem?_eq_some_iff.1 ho).1 hs).trans ho
theorem obj_cell {w:World}{R:Nat}{cs:Array Value}{t:TypeId}(h:w.heap[R]?=some (.cells cs t (0,0)))(i:Nat):w.cell? ⟨R,i,none⟩=cs[i]?:=cell_of_row w R i cs t (0,0) h
theorem obj_free {w:World}{R:Nat}{cs:Array Value}{t:TypeId}(h:w.heap[R]?=some (.cells cs t (0,0)))(i:Nat):w.frozen? ⟨R,i,none⟩=false:=frozen_of_row w R i cs t h
theorem obj_set {w:World}{R:Nat}{cs:Array Value}{t:TypeId}(h:w.heap[R]?=some (.cells cs t (0,0)))(i:Nat)(u:Value):(w.setCell ⟨R,i,none⟩ u).heap[R]?=some (.cells (cs.setIfInBounds i u) t (0,0)):=
 heap_setCell_same w R i cs t u h
theorem obj_lt {w:World}{R:Nat}{o:Obj}(h:w.heap[R]?=some o):R < w.heap.size:=(Array.getElem?_eq_some_iff.1 h).1
theorem row_ne {w:World}{base e n:Nat}{v:Value}{xs:List Value}(ho:w.ownsRow base e 1 v n xs){R:Nat}{cs:Array Value}{t:TypeId}(h:w.heap[R]?=some (.cells cs t (0,0)))(ht:t≠e):∀ k,v.ownBlock=some k→k≠R:=by
 intro k hk e'
 subst e'
 rcases ho.2 with ⟨rfl,_⟩ | ⟨g,cap,cur,rfl,_,hg,_⟩
 ·simp [Value.ownBlock] at hk
 ·simp [Value.ownBlock] at hk
  subst hk
  rw [hg] at h
  simp at h
  exact ht h.2.symm
section
variable {P : Program} (w : World)
theorem run_app (e t ty:TypeId)(i:TypeInfo)(z:Value)(size bytes:Nat)(ht:P.underlying t=some (.slice e))(hi:P.info? e=some i)(hz:i.zero=some z)
  (hsize:i.size=size) (hby:i.bytes=bytes) (hzs:z.cells.size=size) (hsz:0 < size)
  (v:Value) (n:Nat) (xs:List Value) (hown:w.ownsRow 0 e size v n xs)
  (a:Addr) (m c:Nat) (news:List Value) (hl:news.length=m*size) (hnews:∀ j u,news[j]?=some u→w.cell? (a.add j)=some u) (h1:∀ u∈news,u.oneCell'=true)
  (h63:n+m≤maxLen) (hbytes:(n+m)*bytes≤140737488355328):
  ∃ v' w',(Builtin.append_ #[t,t] ty #[v,.slice (some a) m c]).run P w = .ok v' w'∧w'.ownsRow 0 e size v' (n+m) (xs++news)∧w.grownBy w' v.ownBlock∧
   (∀ k,v'.ownBlock=some k→v.ownBlock=some k∨w.heap.size≤k):=by
 obtain ⟨v',w',hr,ho,hg,hn⟩:=run_append_own (P:=P) w 0 t ty e i z size bytes ht hi hz hsize hby hzs hsz v n xs hown a m c news hl hnews h1 h63 hbytes (Nat.zero_le _)
 refine ⟨v',w',hr,ho,hg,?_⟩
 intro k hk
 have hown2:=hown
 rcases hown.2 with ⟨rfl,rfl⟩ | ⟨g,cap,cur,rfl,hbg,hgg,hnc,hcm,hcs,htake⟩
 ·have hx:xs=[]:=List.eq_nil_of_length_eq_zero (by simpa using hown.1)
  subst hx
  obtain ⟨v2,w2,hr2,ho2,_,_⟩:=run_append_own (P:=P) w w.heap.size t ty e i z size bytes ht hi hz hsize hby hzs hsz _ 0 [] (World.ownsRow_nil w w.heap.size e size) a m c news hl hnews h1 h63 hbytes (Nat.le_refl _)
  rw [hr] at hr2
  cases hr2
  exact .inr (ho2.lt k hk).1
 ·by_cases hroom:n+m≤cap
  ·obtain ⟨w2,hr2,_,_⟩:=run_append_fits (P:=P) w 0 t ty e i size ht hi hsize g n cap xs hown a m c news hl hnews h1 hroom
   rw [hr] at hr2
   cases hr2
   exact .inl hk
  ·subst hsize
   subst hby
   have holds:∀ j u,xs[j]?=some u→w.cell? ((⟨g,0,none⟩:Addr).add j)=some u:=hown.cells (g:=g) rfl
   have hr2:=run_append_grow (P:=P) w t ty e i z ht hi hz ⟨g,0,none⟩ n cap xs hown.1 holds a m c news hl hnews (by omega) (by simp only [maxLen] at h63;omega) (growslice_fits (by omega) hbytes)
   rw [hr] at hr2
   cases hr2
   simp [Value.ownBlock] at hk
   exact .inr (by omega)
theorem wpList_app {ops:Array Oper}{rest:List Oper}{o:Oper}{a:Act}{Q:Exit→Act→World→Prop}(hgd:o.guard=none)(s x:Operand)(t:TypeId)
  (ho:o.op = .call { callee := .builtin .append,args:=#[s,x],argTypes:=#[t,t] })
  (e:TypeId) (i:TypeInfo) (z:Value) (size bytes:Nat) (ht:P.underlying t=some (.slice e)) (hi:P.info? e=some i) (hz:i.zero=some z)
  (hsize:i.size=size) (hby:i.bytes=bytes) (hzs:z.cells.size=size) (hsz:0 < size)
  (v:Value) (n:Nat) (xs:List Value) (hs:a.eval s=v) (hown:w.ownsRow 0 e size v n xs)
  (ad:Addr) (m c:Nat) (news:List Value) (hx:a.eval x = .slice (some ad) m c) (hl:news.length=m*size) (hnews:∀ j u,news[j]?=some u→w.cell? (ad.add j)=some u) (h1:∀ u∈news,u.oneCell'=true)
  (h63:n+m≤maxLen) (hbytes:(n+m)*bytes≤140737488355328)
  (h:∀ v' w',w'.ownsRow 0 e size v' (n+m) (xs++news)→w.grownBy w' v.ownBlock→(∀ k,v'.ownBlock=some k→v.ownBlock=some k∨w.heap.size≤k)→wpList P ops Q rest (a.put o.dst v') w'):wpList P ops Q (o :: rest) a w:=
 wpList_plain hgd fun _ hK=>by
  obtain ⟨v',w',hr,h2,h3,h4⟩:=run_app (P:=P) w e t o.type i z size bytes ht hi hz hsize hby hzs hsz v n xs hown ad m c news hl hnews h1 h63 hbytes
  unfold Oper.wp execOp
  simp only [ho,resolve,invoke,builtin,Sem.run_bind,Sem.run_pure,Result.andThen_ok,List.map_toArray,List.map_cons,List.map_nil,hs,hx,hr]
  exact hK _ _ (h v' w' h2 h3 h4)
end
end Go.Proofs.YtfmjfgmbjdhogaaGreatDoor
namespace Go.Proofs.YtfmjfgmbjdhogaaGreatDoor
open Go.Lib
def shr (L:List UInt8)(p a:Nat):Nat→Nat
 | 0=>0
 | m+1=>if L.getD p 0=L.getD a 0 then shr L (p+1) (a+1) m+1 else 0
theorem shr_le (L:List UInt8):∀ (m p a:Nat),shr L p a m≤m
 | 0,p,a=>Nat.le_refl _
 | m+1,p,a=>by
  rw [shr]
  split
  ·have:=shr_le L m (p+1) (a+1);omega
  ·omega
theorem shr_iff (L:List UInt8):∀ (m p a k:Nat),k≤m→(k≤shr L p a m↔∀ j,j < k→L.getD (p+j) 0=L.getD (a+j) 0)
 | 0,p,a,k,hk=>by
  have:k=0:=by omega
  subst this
  exact ⟨fun _ j hj=>by omega,fun _=>Nat.zero_le _⟩
 | m+1,p,a,k,hk=>by
  cases k with
  | zero=>exact ⟨fun _ j hj=>by omega,fun _=>Nat.zero_le _⟩
  | succ k=>
   rw [shr]
   by_cases h:L.getD p 0=L.getD a 0
   ·rw [if_pos h]
    have ih:=shr_iff L m (p+1) (a+1) k (by omega)
    constructor
    ·intro hk2 j hj
     cases j with
     | zero=>exact h
     | succ j=>
      have:=(ih.1 (by omega)) j (by omega)
      rw [show p+(j+1)=p+1+j by omega,show a+(j+1)=a+1+j by omega]
      exact this
    ·intro hj
     have:=ih.2 (fun j hj2=>by
      have:=hj (j+1) (by omega)
      rw [show p+(j+1)=p+1+j by omega,show a+(j+1)=a+1+j by omega] at this
      exact this)
     omega
   ·rw [if_neg h]
    constructor
    ·intro hk2;omega
    ·intro hj;exact absurd (hj 0 (by omega)) h
theorem shr_eq (L:List UInt8)(m p a k:Nat)(hk:k≤m)(h1:∀ j,j < k→L.getD (p+j) 0=L.getD (a+j) 0)(h2:k=m∨L.getD (p+k) 0≠L.getD (a+k) 0):shr L p a m=k:=by
 have g1:=(shr_iff L m p a k hk).2 h1
 have g2:=shr_le L m p a
 rcases h2 with h2 | h2
 ·omega
 ·by_cases h:k=shr L p a m
  ·exact h.symm
  ·exfalso
   apply h2
   exact (shr_iff L m p a (k+1) (by omega)).1 (by omega) k (by omega)
def mostN (L:List UInt8)(a:Nat):Nat:=min 258 (L.length - a)
def candN (L:List UInt8)(a d:Nat):Nat:=shr L (a - d) a (mostN L a)
theorem cand_le (L:List UInt8)(a d:Nat):candN L a d≤mostN L a:=shr_le _ _ _ _
def BestP (c:Nat→Nat)(D n0 n dist:Nat):Prop:=
 (dist=0∧n=n0∧∀ d,1≤d→d≤D→c d≤n0)∨(1≤dist∧dist≤D∧n=c dist∧n0 < n∧∀ d,1≤d→d≤D→c d≤n∧(d < dist→c d < n))
theorem BestP.start (c:Nat→Nat)(n0:Nat):BestP c 0 n0 n0 0 := .inl ⟨rfl,rfl,fun d h1 h2=>by omega⟩
theorem BestP.uniq {c:Nat→Nat}{D n0 n1 d1 n2 d2:Nat}(h:BestP c D n0 n1 d1)(g:BestP c D n0 n2 d2):n1=n2∧d1=d2:=by
 rcases h with ⟨rfl,rfl,h⟩ | ⟨h1,h2,h3,h4,h5⟩
 ·rcases g with ⟨rfl,rfl,g⟩ | ⟨g1,g2,g3,g4,g5⟩
  ·exact ⟨rfl,rfl⟩
  ·have:=h d2 g1 g2;omega
 ·rcases g with ⟨rfl,rfl,g⟩ | ⟨g1,g2,g3,g4,g5⟩
  ·have:=g d1 h1 h2;omega
  ·have a1:=h5 d2 g1 g2
   have a2:=g5 d1 h1 h2
   refine ⟨by omega,?_⟩
   rcases Nat.lt_trichotomy d1 d2 with h | h | h
   ·have:=a2.2 h;omega
   ·exact h
   ·have:=a1.2 h;omega
theorem BestP.le {c:Nat→Nat}{D n0 n d:Nat}(h:BestP c D n0 n d):n0≤n∧d≤D∧(d=0→n=n0)∧(d≠0→n0 < n):=by
 rcases h with ⟨rfl,rfl,h⟩ | ⟨h1,h2,h3,h4,h5⟩
 ·exact ⟨Nat.le_refl _,Nat.zero_le _,fun _=>rfl,fun h=>absurd rfl h⟩
 ·exact ⟨by omega,h2,fun h=>by omega,fun _=>h4⟩
theorem BestP.skip {c:Nat→Nat}{D D2 n0 n d:Nat}(h:BestP c D n0 n d)(hD:D≤D2)(hc:∀ e,D < e→e≤D2→c e≤n):BestP c D2 n0 n d:=by
 rcases h with ⟨rfl,rfl,h⟩ | ⟨h1,h2,h3,h4,h5⟩
 ·refine .inl ⟨rfl,rfl,fun e e1 e2=>?_⟩
  by_cases he:e≤D
  ·exact h e e1 he
  ·exact hc e (by omega) e2
 ·refine .inr ⟨h1,by omega,h3,h4,fun e e1 e2=>?_⟩
  by_cases he:e≤D
  ·exact h5 e e1 he
  ·exact ⟨hc e (by omega) e2,fun h=>by omega⟩
theorem BestP.take {c:Nat→Nat}{D n0 n d:Nat}(h:BestP c D n0 n d)(hc:n < c (D+1)):BestP c (D+1) n0 (c (D+1)) (D+1):=by
 have hle:=h.le
 refine .inr ⟨by omega,Nat.le_refl _,rfl,by omega,fun e e1 e2=>?_⟩
 by_cases he:e≤D
 ·have:c e≤n:=by
   rcases h with ⟨_,rfl,h⟩ | ⟨_,_,_,_,h5⟩
   ·exact h e e1 he
   ·exact (h5 e e1 he).1
  exact ⟨by omega,fun _=>by omega⟩
 ·have:e=D+1:=by omega
  subst this
  exact ⟨Nat.le_refl _,fun h=>by omega⟩
theorem BestP.step {c:Nat→Nat}{D n0 n d:Nat}(h:BestP c D n0 n d):BestP c (D+1) n0 (if n < c (D+1) then c (D+1) else n) (if n < c (D+1) then D+1 else d):=by
 by_cases hc:n < c (D+1)
 ·rw [if_pos hc,if_pos hc];exact h.take hc
 ·rw [if_neg hc,if_neg hc]
  refine h.skip (by omega) (fun e e1 e2=>?_)
  have:e=D+1:=by omega
  subst this
  omega
theorem BestP.lower {c:Nat→Nat}{D n0 m n d:Nat}(h:BestP c D n0 n d)(hd:d≠0)(hm:m≤n0):BestP c D m n d:=by
 rcases h with ⟨rfl,rfl,h⟩ | ⟨h1,h2,h3,h4,h5⟩
 ·exact absurd rfl hd
 ·exact .inr ⟨h1,h2,h3,by omega,h5⟩
def scanN (c:Nat→Nat)(n0:Nat):Nat→Nat × Nat
 | 0=>(n0,0)
 | D+1=>(if (scanN c n0 D).1 < c (D+1) then c (D+1) else (scanN c n0 D).1,if (scanN c n0 D).1 < c (D+1) then D+1 else (scanN c n0 D).2)
theorem scan_best (c:Nat→Nat)(n0:Nat):∀ D,BestP c D n0 (scanN c n0 D).1 (scanN c n0 D).2
 | 0=>BestP.start c n0
 | D+1=>(scan_best c n0 D).step
def ansN (s:Nat × Nat):Nat × Nat:=if s.2=0 then (0,0) else s
def longN (L:List UInt8)(a:Nat):Nat × Nat:=ansN (scanN (candN L a) 2 (min a 32768))
theorem long_of {L:List UInt8}{a n d:Nat}(h:BestP (candN L a) (min a 32768) 2 n d):longN L a=if d=0 then (0,0) else (n,d):=by
 obtain ⟨h1,h2⟩:=(scan_best (candN L a) 2 (min a 32768)).uniq h
 obtain ⟨s,hs⟩:∃ s,s=scanN (candN L a) 2 (min a 32768):=⟨_,rfl⟩
 rw [longN,ansN,← hs]
 rw [← hs] at h1 h2
 obtain ⟨s1,s2⟩:=s
 simp only at h1 h2
 subst h1 h2
 rfl
theorem long_ok (L:List UInt8)(a:Nat):((longN L a).1=0∧(longN L a).2=0∧∀ d,1≤d→d≤min a 32768→candN L a d≤2) ∨
  (3≤(longN L a).1∧(longN L a).1≤mostN L a∧1≤(longN L a).2∧(longN L a).2≤min a 32768∧candN L a (longN L a).2=(longN L a).1∧∀ d,1≤d→d≤min a 32768→candN L a d≤(longN L a).1∧(d < (longN L a).2→candN L a d < (longN L a).1)):=by
 have h:=scan_best (candN L a) 2 (min a 32768)
 rw [long_of h]
 rcases h with ⟨h1,h2,h3⟩ | ⟨h1,h2,h3,h4,h5⟩
 ·rw [if_pos h1];exact .inl ⟨rfl,rfl,h3⟩
 ·rw [if_neg (by omega)]
  refine .inr ⟨by simp only;omega,?_,h1,h2,h3.symm,h5⟩
  rw [h3];exact cand_le _ _ _
def prevN (slot:Nat→Nat)(s:Nat):Nat→Int
 | 0 => -1
 | i+1=>if slot i=s then (i:Int) else prevN slot s i
theorem prev_spec (slot:Nat→Nat)(s:Nat):∀ i,(prevN slot s i = -1∧∀ p,p < i→slot p≠s)∨∃ q:Nat,prevN slot s i=(q:Int)∧q < i∧slot q=s∧∀ p,q < p→p < i→slot p≠s
 | 0 => .inl ⟨rfl,fun p hp=>by omega⟩
 | i+1=>by
  rw [prevN]
  by_cases h:slot i=s
  ·rw [if_pos h]
   exact .inr ⟨i,rfl,by omega,h,fun p h1 h2=>by omega⟩
  ·rw [if_neg h]
   rcases prev_spec slot s i with ⟨h1,h2⟩ | ⟨q,h1,h2,h3,h4⟩
   ·refine .inl ⟨h1,fun p hp=>?_⟩
    by_cases e:p=i
    ·subst e;exact h
    ·exact h2 p (by omega)
   ·refine .inr ⟨q,h1,by omega,h3,fun p p1 p2=>?_⟩
    by_cases e:p=i
    ·subst e;exact h
    ·exact h4 p p1 (by omega)
theorem prev_bd (slot:Nat→Nat)(s i:Nat) : -1≤prevN slot s i∧prevN slot s i < (i:Int):=by
 rcases prev_spec slot s i with ⟨h,_⟩ | ⟨q,h,hq,_⟩ <;> rw [h] <;> omega
def keyN (L:List UInt8)(k p:Nat):Nat:=leNat ((L.drop p).take k)
theorem leNat_cons (b:UInt8)(r:List UInt8):leNat (b :: r)=b.toNat+256*leNat r:=by simp [leNat]
theorem leNat_lt:∀ l:List UInt8,leNat l < 256 ^ l.length
 | []=>by simp [leNat]
 | b :: r=>by
  have:=leNat_lt r
  have hb:=b.toNat_lt
  rw [leNat_cons,List.length_cons,Nat.pow_succ]
  omega
theorem leNat_inj:∀ (a b:List UInt8),a.length=b.length→leNat a=leNat b→a=b
 | [],[],_,_=>rfl
 | x :: a,y :: b,hl,h=>by
  rw [leNat_cons,leNat_cons] at h
  have hx:=x.toNat_lt
  have hy:=y.toNat_lt
  have h1:x.toNat=y.toNat:=by omega
  have h2:leNat a=leNat b:=by omega
  rw [UInt8.toNat_inj.1 h1,leNat_inj a b (by simpa using hl) h2]
 | [],_ :: _,hl,_=>by simp at hl
 | _ :: _,[],hl,_=>by simp at hl
theorem leNat_mod:∀ (j:Nat) (l:List UInt8),leNat l % 256 ^ j=leNat (l.take j)
 | 0,l=>by simp [leNat,Nat.mod_one]
 | j+1,[]=>by simp [leNat]
 | j+1,b :: r=>by
  have ih:=leNat_mod j r
  rw [List.take_succ_cons,leNat_cons,leNat_cons,← ih,Nat.pow_succ]
  have hb:=b.toNat_lt
  have hp:0 < 256 ^ j:=Nat.pow_pos (by omega)
  have e:b.toNat+256*leNat r=(b.toNat+256*(leNat r % 256 ^ j))+(256 ^ j*256)*(leNat r / 256 ^ j):=by
   have:=Nat.div_add_mod (leNat r) (256 ^ j)
   conv=>lhs;rw [← this]
   rw [Nat.mul_add,← Nat.mul_assoc 256,Nat.mul_comm 256 (256 ^ j)]
   omega
  rw [e,Nat.add_mul_mod_self_left,Nat.mod_eq_of_lt]
  have:=Nat.mod_lt (leNat r) hp
  omega
theorem take_getD_eq (L:List UInt8)(p q k:Nat)(hp:p+k≤L.length)(hq:q+k≤L.length):(L.drop p).take k=(L.drop q).take k↔∀ j,j < k→L.getD (p+j) 0=L.getD (q+j) 0:=by
 constructor
 ·intro h j hj
  have:=congrArg (fun l=>l[j]?) h
  simp only [List.getElem?_take_of_lt hj,List.getElem?_drop] at this
  simp [List.getD,this]
 ·intro h
  apply List.ext_getElem?
  intro j
  by_cases hj:j < k
  ·rw [List.getElem?_take_of_lt hj,List.getElem?_take_of_lt hj,List.getElem?_drop,List.getElem?_drop]
   have:=h j hj
   simp only [List.getD] at this
   rw [List.getElem?_eq_getElem (by omega),List.getElem?_eq_getElem (by omega)] at this ⊢
   simpa using this
  ·rw [List.getElem?_eq_none (by simp;omega),List.getElem?_eq_none (by simp;omega)]
theorem key_iff (L:List UInt8)(k p q:Nat)(hp:p+k≤L.length)(hq:q+k≤L.length):keyN L k p=keyN L k q↔∀ j,j < k→L.getD (p+j) 0=L.getD (q+j) 0:=by
 rw [← take_getD_eq L p q k hp hq]
 constructor
 ·intro h
  exact leNat_inj _ _ (by simp;omega) h
 ·intro h;unfold keyN;rw [h]
theorem key_lt (L:List UInt8)(k p:Nat):keyN L k p < 256 ^ k:=by
 have:=leNat_lt ((L.drop p).take k)
 have h2:((L.drop p).take k).length≤k:=by rw [List.length_take];omega
 exact Nat.lt_of_lt_of_le this (Nat.pow_le_pow_right (by omega) h2)
theorem xor_zero (a b:Nat):a ^^^ b=0↔a=b:=by
 constructor
 ·intro h
  have:=congrArg (· ^^^ b) h
  simpa [Nat.xor_assoc] using this
 ·rintro rfl;exact Nat.xor_self a
theorem ctz_at (x:Nat)(h0:x≠0)(h:x < 18446744073709551616):ctz 64 x < 64∧x % 2 ^ ctz 64 x=0∧x % 2 ^ (ctz 64 x+1)≠0:=by
 obtain ⟨m,h1,h2⟩:=ctzFrom_spec 64 x (by omega) h
 have e:ctz 64 x=ctzFrom 64 x:=if_neg h0
 rw [e]
 refine ⟨h2,?_,?_⟩
 ·conv=>lhs;lhs;rw [h1]
  exact Nat.mul_mod_right _ _
 ·conv=>lhs;lhs;rw [h1]
  rw [Nat.pow_succ,Nat.mul_mod_mul_left]
  have hp:0 < 2 ^ ctzFrom 64 x:=Nat.pow_pos (by omega)
  have:(2*m+1) % 2=1:=by omega
  rw [this]
  omega
theorem ctz_part (L:List UInt8)(p q:Nat)(hp:p+8≤L.length)(hq:q+8≤L.length)(hne:keyN L 8 p ^^^ keyN L 8 q≠0):
  ctz 64 (keyN L 8 p ^^^ keyN L 8 q) / 8 < 8∧(∀ j,j < ctz 64 (keyN L 8 p ^^^ keyN L 8 q) / 8→L.getD (p+j) 0=L.getD (q+j) 0)∧
   L.getD (p+ctz 64 (keyN L 8 p ^^^ keyN L 8 q) / 8) 0≠L.getD (q+ctz 64 (keyN L 8 p ^^^ keyN L 8 q) / 8) 0:=by
 have hx:keyN L 8 p < 2 ^ 64:=key_lt L 8 p
 have hy:keyN L 8 q < 2 ^ 64:=key_lt L 8 q
 obtain ⟨h1,h2,h3⟩:=ctz_at _ hne (Nat.xor_lt_two_pow hx hy)
 obtain ⟨c,hc⟩:∃ c,c=ctz 64 (keyN L 8 p ^^^ keyN L 8 q):=⟨_,rfl⟩
 rw [← hc] at h1 h2 h3 ⊢
 have hmod:∀ m,(keyN L 8 p ^^^ keyN L 8 q) % 2 ^ m=0↔keyN L 8 p % 2 ^ m=keyN L 8 q % 2 ^ m:=by
  intro m
  rw [Nat.xor_mod_two_pow,xor_zero]
 have h8:∀ j,j≤8→(keyN L 8 p % 2 ^ (8*j)=keyN L 8 q % 2 ^ (8*j)↔∀ i,i < j→L.getD (p+i) 0=L.getD (q+i) 0):=by
  intro j hj
  rw [Nat.pow_mul,show 2 ^ 8=256 from rfl]
  unfold keyN
  rw [leNat_mod,leNat_mod,List.take_take,List.take_take,Nat.min_eq_left hj]
  exact key_iff L j p q (by omega) (by omega)
 have hdown:∀ m n,m≤n→keyN L 8 p % 2 ^ n=keyN L 8 q % 2 ^ n→keyN L 8 p % 2 ^ m=keyN L 8 q % 2 ^ m:=by
  intro m n hmn h
  have hd:2 ^ m ∣ 2 ^ n:=Nat.pow_dvd_pow 2 hmn
  rw [← Nat.mod_mod_of_dvd (keyN L 8 p) hd,h,Nat.mod_mod_of_dvd _ hd]
 have g2:=(hmod c).1 h2
 have hlow:=(h8 (c / 8) (by omega)).1 (hdown (8*(c / 8)) c (by omega) g2)
 refine ⟨by omega,hlow,fun he=>?_⟩
 apply h3
 apply (hmod (c+1)).2
 refine hdown (c+1) (8*(c / 8+1)) (by omega) ((h8 (c / 8+1) (by omega)).2 (fun i hi=>?_))
 by_cases e:i=c / 8
 ·subst e;exact he
 ·exact hlow i (by omega)
end Go.Proofs.YtfmjfgmbjdhogaaGreatDoor
namespace Go.Proofs.YtfmjfgmbjdhogaaGreatDoor
open Go.RowKit
def num:List Int→Nat
 | []=>0
 | b :: r=>b.toNat+256*num r
def AllB (bs:List Int):Prop:=∀ b∈bs,0≤b∧b < 256
theorem num_lt (bs:List Int)(h:AllB bs):num bs < 256 ^ bs.length:=by
 induction bs with
 | nil=>simp [num]
 | cons b r ih=>
  have h1:=h b (by simp)
  have h2:=ih (fun x hx=>h x (by simp [hx]))
  simp only [num,List.length_cons,Nat.pow_succ]
  omega
theorem num_append (a b:List Int):num (a++b)=num a+256 ^ a.length*num b:=by
 induction a with
 | nil=>simp [num]
 | cons x r ih=>simp only [List.cons_append,num,ih,List.length_cons,Nat.pow_succ];rw [Nat.mul_add,Nat.mul_comm (256 ^ r.length) 256,Nat.mul_assoc];omega
theorem AllB.take {bs:List Int}(h:AllB bs)(n:Nat):AllB (bs.take n):=fun b hb=>h b (List.mem_of_mem_take hb)
theorem AllB.drop {bs:List Int}(h:AllB bs)(n:Nat):AllB (bs.drop n):=fun b hb=>h b (List.mem_of_mem_drop hb)
theorem AllB.getD {bs:List Int}(h:AllB bs)(i:Nat):0≤bs.getD i 0∧bs.getD i 0 < 256:=by
 by_cases hi:i < bs.length
 ·have:bs.getD i 0=bs[i]:=by simp [List.getD,hi]
  rw [this];exact h _ (List.getElem_mem hi)
 ·have:bs.getD i 0=0:=by simp [List.getD,List.getElem?_eq_none (Nat.le_of_not_lt hi)]
  omega
theorem num_take_drop (bs:List Int)(h:AllB bs)(n:Nat):num (bs.take n)=num bs % 256 ^ n∧num (bs.drop n)=num bs / 256 ^ n:=by
 by_cases hn:n≤bs.length
 ·have e:num bs=num (bs.take n)+256 ^ n*num (bs.drop n):=by
   have:=num_append (bs.take n) (bs.drop n)
   rw [List.take_append_drop,List.length_take,Nat.min_eq_left hn] at this
   exact this
  have l:=num_lt _ (h.take n)
  rw [List.length_take,Nat.min_eq_left hn] at l
  rw [e]
  refine ⟨?_,?_⟩
  ·rw [Nat.add_mul_mod_self_left,Nat.mod_eq_of_lt l]
  ·rw [Nat.add_mul_div_left _ _ (Nat.pow_pos (by decide)),Nat.div_eq_of_lt l,Nat.zero_add]
 ·have l:=num_lt _ h
  have l2:num bs < 256 ^ n:=Nat.lt_of_lt_of_le l (Nat.pow_le_pow_right (by decide) (by omega))
  rw [List.take_of_length_le (by omega),List.drop_of_length_le (by omega),Nat.mod_eq_of_lt l2,Nat.div_eq_of_lt l2]
  simp [num]
theorem num_take_succ (bs:List Int)(i:Nat)(hi:i < bs.length):num (bs.take (i+1))=num (bs.take i)+(bs.getD i 0).toNat*256 ^ i:=by
 have e:bs.take (i+1)=bs.take i++[bs.getD i 0]:=by
  rw [List.take_succ_eq_append_getElem hi];simp [List.getD,hi]
 rw [e,num_append,List.length_take,Nat.min_eq_left (by omega)]
 simp [num,Nat.mul_comm]
theorem or_shift (a b s:Nat)(h:a < 2 ^ s):a ||| b*2 ^ s=a+b*2 ^ s:=by
 rw [← Nat.shiftLeft_eq,Nat.or_comm,Nat.add_comm]
 exact (Nat.shiftLeft_add_eq_or_of_lt h b).symm
theorem pow256 (i:Nat):256 ^ i=2 ^ (8*i):=by rw [Nat.pow_mul]
def bitsAt (bs:List Int)(p k:Nat):Nat:=num bs / 2 ^ p % 2 ^ k
theorem bitsAt_window (bs:List Int)(h:AllB bs)(f s k m:Nat)(hm:s+k≤8*m):
  num ((bs.drop f).take m) / 2 ^ s % 2 ^ k=bitsAt bs (8*f+s) k:=by
 unfold bitsAt
 rw [(num_take_drop (bs.drop f) (h.drop f) m).1,(num_take_drop bs h f).2,pow256,pow256,Nat.pow_add,← Nat.div_div_eq_div_mul]
 generalize num bs / 2 ^ (8*f)=x
 have e:2 ^ (8*m)=2 ^ s*2 ^ (8*m - s):=by rw [← Nat.pow_add];congr 1;omega
 rw [e,Nat.mod_mul_right_div_self]
 exact Nat.mod_mod_of_dvd _ (Nat.pow_dvd_pow 2 (by omega))
theorem bitsAt_lt (bs:List Int)(p k:Nat):bitsAt bs p k < 2 ^ k:=Nat.mod_lt _ (Nat.pow_pos (by decide))
theorem pow_le_pow2 {a b:Nat}(h:a≤b):2 ^ a≤2 ^ b:=Nat.pow_le_pow_right (by decide) h
theorem or_step (bs:List Int)(h:AllB bs)(f j:Nat)(hj:j < 8)(hi:f+j < bs.length)(z:Int)(hz:bs.getD (f+j) 0=z):
  bits .or .u64 (num ((bs.drop f).take j):Nat) (IntKind.u64.wrap (z*2 ^ (8*j)))=(num ((bs.drop f).take (j+1)):Nat):=by
 have hg:=h.getD (f+j)
 rw [hz] at hg
 have hl:=num_lt _ ((h.drop f).take j)
 have hlen:((bs.drop f).take j).length=j:=by rw [List.length_take,List.length_drop];omega
 rw [hlen,pow256] at hl
 have hs:=num_take_succ (bs.drop f) j (by rw [List.length_drop];omega)
 have hd:(bs.drop f).getD j 0=z:=by rw [← hz];simp [List.getD,List.getElem?_drop]
 rw [hd,pow256] at hs
 obtain ⟨y,rfl⟩:=Int.eq_ofNat_of_zero_le hg.1
 have hy:y < 256:=by omega
 have hb1:2 ^ (8*j)≤2 ^ 56:=pow_le_pow2 (by omega)
 have hb2:y*2 ^ (8*j)≤255*2 ^ 56:=Nat.mul_le_mul (by omega) hb1
 have hw:IntKind.u64.wrap ((y:Int)*2 ^ (8*j))=((y*2 ^ (8*j):Nat):Int):=by
  rw [IntKind.wrap_u64]
  have e:((y:Int)*2 ^ (8*j))=((y*2 ^ (8*j):Nat):Int):=by push_cast;rfl
  rw [e]
  omega
 rw [hw,hs]
 have:=u64_or_nat (num ((bs.drop f).take j)) (y*2 ^ (8*j)) (by omega) (by omega)
 rw [this,or_shift _ _ _ hl]
 simp
theorem and_mask (x t k:Nat)(hx:x < 18446744073709551616)(hk:k≤32):
  bits .and .u64 ((x:Int) / 2 ^ t) (IntKind.u64.wrap (2 ^ k - 1)) % 4294967296=((x / 2 ^ t % 2 ^ k:Nat):Int):=by
 have h1:(1:Nat)≤2 ^ k:=Nat.one_le_two_pow
 have h2:2 ^ k≤2 ^ 32:=pow_le_pow2 hk
 have hw:IntKind.u64.wrap ((2:Int) ^ k - 1)=((2 ^ k - 1:Nat):Int):=by
  rw [IntKind.wrap_u64]
  have e:((2:Int) ^ k - 1)=((2 ^ k - 1:Nat):Int):=by rw [Int.natCast_sub h1];push_cast;rfl
  rw [e]
  omega
 have hd:((x:Int) / 2 ^ t)=((x / 2 ^ t:Nat):Int):=by push_cast;rfl
 have hq:x / 2 ^ t≤x:=Nat.div_le_self _ _
 rw [hw,hd,u64_and_nat _ _ (by omega) (by omega),Nat.and_two_pow_sub_one_eq_mod]
 have:x / 2 ^ t % 2 ^ k < 2 ^ k:=Nat.mod_lt _ (by omega)
 omega
theorem wrap_pow (k:Nat)(hk:k≤32):IntKind.u64.wrap ((2:Int) ^ k)=2 ^ k:=by
 have h2:2 ^ k≤2 ^ 32:=pow_le_pow2 hk
 rw [IntKind.wrap_u64]
 have e:((2:Int) ^ k)=((2 ^ k:Nat):Int):=by push_cast;rfl
 rw [e]
 generalize 2 ^ k=y at h2 ⊢
 omega
theorem num_take_lt (bs:List Int)(h:AllB bs)(j:Nat)(hj:j≤8):num (bs.take j) < 18446744073709551616:=by
 have hl:=num_lt _ (h.take j)
 have:(bs.take j).length≤j:=List.length_take_le _ _
 have h3:256 ^ (bs.take j).length≤256 ^ 8:=Nat.pow_le_pow_right (by decide) (by omega)
 omega
theorem info5:(Tryz.prog.info? 5).map (fun i=>(i.zero,i.size,i.bytes))=some (some (.int .u8 0),1,1):=by kernel_rfl
def Reads (w:World)(ao:Option Addr)(xs:List Int):Prop:=
 (ao=none→xs=[])∧∀ a,ao=some a→∀ i,i < xs.length→w.cell? (a.add i)=some (.int .u8 (xs.getD i 0))
theorem Reads.kept {S:Nat→Prop}{w w':World}{ao:Option Addr}{xs:List Int}(h:Reads w ao xs)(hk:Kept S w w')(hs:∀ a,ao=some a→¬ S a.block):Reads w' ao xs:=by
 refine ⟨h.1,fun a ha i hi=>?_⟩
 have hc:=h.2 a ha i hi
 have hb:=World.block_lt_of_cell? w _ hc
 have e:(a.add i).block=a.block:=by unfold Addr.add;split <;> rfl
 exact (World.cell?_of_block (hk.block _ hb (by rw [e];exact hs a ha))).trans hc
theorem addr_add (g o i:Nat):(⟨g,o,none⟩:Addr).add i=⟨g,o+i,none⟩:=by unfold Addr.add;split <;> simp_all
theorem own_reads {w:World}{ao:Option Addr}{n cap:Nat}{xs:List Int}(h:w.ownsRow 0 5 1 (.slice ao n cap) xs.length (xs.map (.int .u8)))(hn:n=xs.length):Reads w ao xs:=by
 subst hn
 refine ⟨fun e=>?_,fun a e i hi=>?_⟩
 ·subst e
  rcases h.2 with ⟨_,hz⟩ | ⟨g,c,cur,hv,_⟩
  ·exact List.eq_nil_of_length_eq_zero hz
  ·simp at hv
 ·subst e
  obtain ⟨g,rfl⟩:∃ g,a=⟨g,0,none⟩:=by
   rcases h.2 with ⟨hv,_⟩ | ⟨g,c,cur,hv,_⟩
   ·simp at hv
   ·simp at hv;exact ⟨g,hv.1⟩
  rw [addr_add,Nat.zero_add,h.cellAt i (by omega)]
  simp [List.getD,hi]
def Copied (w:World)(ao:Option Addr)(xs:List Int)(e:Ending)(w':World):Prop:=
 ∃ ao' cap',e = .returned (.slice ao' xs.length cap')∧w'.ownsRow 0 5 1 (.slice ao' xs.length cap') xs.length (xs.map (.int .u8))∧
  (∀ k,(Value.slice ao' xs.length cap').ownBlock=some k→w.heap.size≤k)∧(ao'=none↔ao=none)∧Kept NoB w w'
theorem own_shape {w:World}{base e:Nat}{v:Value}{n:Nat}{xs:List Value}(h:w.ownsRow base e 1 v n xs):∃ ao cap,v = .slice ao n cap:=by
 rcases h.2 with ⟨rfl,rfl⟩ | ⟨g,cap,cur,rfl,_⟩
 ·exact ⟨none,0,rfl⟩
 ·exact ⟨_,cap,rfl⟩
theorem clone_any (ao:Option Addr)(cap:Nat)(xs:List Int)(w:World)(hr:Reads w ao xs)(hl:xs.length≤140737488355328):
  Calls Tryz.prog 54 #[.slice ao xs.length cap] w (Copied w ao xs):=by
 obtain ⟨i0,hi,hz0,hz1,hz2⟩:=info_parts info5
 have q22:∀ (w:World) (a:Option Addr) (n c n' c':Nat),(binOp .eql 22 (.slice a n c) (.slice none n' c')).run Tryz.prog w = .ok (.bool a.isNone) w:=fun w a n c n' c'=>Lib.run_eql_slice_nil w _ _ a n c n' c' Tryz.underlying22
 cases ao with
 | none=>
  go_enter Tryz.func54,Tryz.ntmps54
  go_wp2
  go_ret
  have:xs=[]:=hr.1 rfl
  subst this
  exact ⟨none,0,rfl,World.ownsRow_nil _ _ _ _,by simp [Value.ownBlock],by simp,Kept.refl _ _⟩
 | some a=>
  have HA:=Hd (hr.2 a rfl);clear hr
  obtain ⟨n,hn⟩:∃ n,n=xs.length:=⟨_,rfl⟩
  have HN:=Hd hn
  rw [← hn] at hl ⊢
  clear hn
  go_enter Tryz.func54,Tryz.ntmps54
  go_wp2_with (at_builtin;refine wpList_append_own _ rfl _ _ 22 rfl w.heap.size 5 i0 (.int .u8 0) 1 1 Tryz.underlying22 hi hz0 hz1 hz2 rfl (by decide) _ _ _ rfl (World.ownsRow_made w #[] 0 (Nat.le_refl _) (Nat.zero_le _) rfl) a n cap (xs.map (Value.int .u8)) rfl ?qc1 ?qc2 ?qc3 ?qc4 ?qc5 ?qc6 ?_)
  case qc1=>simp [HN.out]
  case qc2=>
   intro j u hj
   have hjn:j < xs.length:=by
    have:=(List.getElem?_eq_some_iff.1 hj).1
    simpa using this
   refine Lib.cell?_alloc_some _ ?_
   rw [HA.out j hjn]
   have e:(xs.map (Value.int .u8))[j]?=some (Value.int .u8 (xs.getD j 0)):=by simp [List.getD,List.getElem?_eq_getElem hjn]
   rw [e] at hj
   exact hj
  case qc3=>intro u hu;obtain ⟨x,_,rfl⟩:=List.mem_map.1 hu;rfl
  case qc4=>unfold maxLen;omega
  case qc5=>omega
  case qc6=>simp
  intro v' w1 hown hgrow hnil
  go_wp2
  go_ret
  obtain ⟨ao',cap',rfl⟩:=own_shape hown
  have hb:=hown.lt
  rw [HN.out] at hown hb hnil ⊢
  refine ⟨ao',cap',rfl,⟨hown.1,?_⟩,fun k hk=>(hb k hk).1,?_,?_⟩
  ·rcases hown.2 with h | ⟨g,c,cur,e1,_,e2⟩
   ·exact .inl h
   ·exact .inr ⟨g,c,cur,e1,Nat.zero_le _,e2⟩
  ·constructor
   ·intro e
    subst e
    rcases hown.2 with ⟨h1,h2⟩ | ⟨g,c,cur,h1,_⟩
    ·exact absurd h1 hnil
    ·simp at h1
   ·intro e;cases e
  ·exact ((Kept.refl NoB w).alloc _).grown hgrow (by intro k hk e;simp [Value.ownBlock] at e;omega)
end Go.Proofs.YtfmjfgmbjdhogaaGreatDoor
namespace Go.Proofs.YtfmjfgmbjdhogaaGreatDoor
open Go.RowKit Go.ChangeShapes Go.WideShapes Go.Deep
def Rd (w:World)(t:TypeId)(cs:List Value):Prop:=
 ∃ (H:Type) (enc:TypeId × Value→H) (base:Nat) (spare:Nat→Bool) (held:Bool) (fuel:Nat) (x:DataW H × List MemPlace),DataW.trod enc Tryz.prog w base spare held fuel t cs=some x
def Arg (w:World)(t:TypeId)(v:Value):Prop:=(∃ base,Value.okWide Tryz.prog w .any base t v)∧Rd w t v.cells.toList
theorem Rd.int {w:World}{t:TypeId}{cs:List Value}{k:IntKind}(ht:Tryz.prog.underlying t=some (.int k))(h:Rd w t cs):∃ n,cs=[.int k n]∧(Lit.int k n).wf=true:=by
 obtain ⟨H,enc,base,spare,held,fuel,x,hx⟩:=h
 obtain ⟨n,h1,_,h2⟩:=DataW.trod_int ht hx
 exact ⟨n,h1,h2⟩
theorem Rd.string {w:World}{t:TypeId}{cs:List Value}(ht:Tryz.prog.underlying t=some .string)(h:Rd w t cs):∃ s:ByteArray,cs=[.string s]∧s.size≤maxLen:=by
 obtain ⟨H,enc,base,spare,held,fuel,x,hx⟩:=h
 obtain ⟨s,h1,_,h2⟩:=DataW.trod_string ht hx
 exact ⟨s,h1,h2⟩
theorem Rd.struct {w:World}{t:TypeId}{cs:List Value}{fs:Array Field}(ht:Tryz.prog.underlying t=some (.struct fs))(h:Rd w t cs):
  cs.length=Tryz.prog.cellsOf t∧∀ (i:Nat) (f:Field),fs[i]?=some f→Rd w f.type ((cs.drop f.offset).take (Tryz.prog.cellsOf f.type)):=by
 obtain ⟨H,enc,base,spare,held,fuel,x,hx⟩:=h
 obtain ⟨ys,n,_,_,hlen,hyl,hf⟩:=DataW.trod_struct ht hx
 refine ⟨hlen,fun i f hi=>?_⟩
 have hil:i < fs.size:=(Array.getElem?_eq_some_iff.1 hi).1
 have hy:ys[i]?=some (ys[i]'(by omega)):=List.getElem?_eq_getElem (by omega)
 exact ⟨H,enc,base,spare,held,n,_,(hf i f hi).trans hy⟩
theorem Arg.mk' {H:Type}{enc:TypeId × Value→H}{w:World}{b0 base:Nat}{spare:Nat→Bool}{held:Bool}{t:TypeId}{v:Value}{d:DataW H}{p:List MemPlace}(hv:Value.okWide Tryz.prog w .any b0 t v)
  (hd:DataW.Trod enc Tryz.prog w base spare held t v d p):Arg w t v:=by
 obtain ⟨fuel,h⟩:=hd
 exact ⟨⟨b0,hv⟩,H,enc,base,spare,held,fuel,_,h⟩
theorem Arg.int {w:World}{t:TypeId}{v:Value}{k:IntKind}(ht:Tryz.prog.underlying t=some (.int k))(h:Arg w t v):∃ n,v = .int k n∧(Lit.int k n).wf=true:=by
 obtain ⟨⟨base,hv⟩,hr⟩:=h
 obtain ⟨n,rfl⟩:=okWide_int ht hv
 obtain ⟨m,h1,h2⟩:=hr.int ht
 simp [Value.cells] at h1
 subst h1
 exact ⟨_,rfl,h2⟩
theorem cells_u8:Tryz.prog.cellsOf 5=1:=by kernel_rfl
theorem Rd.bytes {w:World}{t:TypeId}{cs:List Value}(ht:Tryz.prog.underlying t=some (.slice 5))(h:Rd w t cs):
  ∃ (ao:Option Addr) (cap:Nat) (bs:List Int),cs=[.slice ao bs.length cap]∧bs.length≤cap∧cap≤maxLen∧Reads w ao bs∧AllB bs∧(ao=none→cap=0):=by
 obtain ⟨H,enc,base,spare,held,fuel,x,hx⟩:=h
 rcases open_ints ht Tryz.underlying5 cells_u8 hx with ⟨hcs,_⟩ | ⟨a,l,c,zs,hcs,_,hl,hm,hz,_,hcell,hwz⟩
 ·exact ⟨none,0,[],hcs,Nat.le_refl _,Nat.zero_le _,⟨(fun _=>rfl),(fun a ha=>by cases ha)⟩,(by intro b hb;cases hb),(fun _=>rfl)⟩
 ·have hzl:l≤zs.length:=by
   have:=hz
   split at this <;> omega
  have hlen:(zs.take l).length=l:=by rw [List.length_take];omega
  refine ⟨some a,c,zs.take l,by rw [hlen];exact hcs,by rw [hlen];exact hl,hm,⟨(fun h=>by cases h),?_⟩,?_,(fun h=>by cases h)⟩
  ·intro a' ha i hi
   cases ha
   rw [hlen] at hi
   rw [hcell i (by omega)]
   simp [List.getD,hi]
  ·intro b hb
   have:=hwz b (List.mem_of_mem_take hb)
   simp [Lit.wf,IntKind.min,IntKind.max,IntKind.signed,IntKind.bits] at this
   omega
theorem Arg.bytes {w:World}{t:TypeId}{v:Value}(ht:Tryz.prog.underlying t=some (.slice 5))(h:Arg w t v):
  ∃ (ao:Option Addr) (cap:Nat) (bs:List Int),v = .slice ao bs.length cap∧bs.length≤cap∧cap≤maxLen∧Reads w ao bs∧AllB bs∧(ao=none→cap=0):=by
 obtain ⟨⟨base,hv⟩,hr⟩:=h
 obtain ⟨a,l,c,rfl⟩:=okWide_slice ht hv
 obtain ⟨ao,cap,bs,h1,rest⟩:=hr.bytes ht
 simp [Value.cells] at h1
 obtain ⟨rfl,rfl,rfl⟩:=h1
 exact ⟨_,_,_,rfl,rest⟩
theorem i64_bd {n:Int}(h:(Lit.int .i64 n).wf=true) : -9223372036854775808≤n∧n≤9223372036854775807:=by
 simpa [Lit.wf,IntKind.min,IntKind.max,IntKind.signed,IntKind.bits] using h
end Go.Proofs.YtfmjfgmbjdhogaaGreatDoor
namespace Go.Proofs.YtfmjfgmbjdhogaaGreatDoor
open Go.RowKit
theorem Reads.at {w:World}{ao:Option Addr}{bs:List Int}(h:Reads w ao bs)(h0:0 < bs.length):
  ∃ b off,ao=some ⟨b,off,none⟩∧b < w.heap.size∧∀ j,j < bs.length→w.cell? ⟨b,off+j,none⟩=some (.int .u8 (bs.getD j 0)):=by
 cases ao with
 | none=>have:=h.1 rfl;subst this;simp at h0
 | some a=>
  obtain ⟨b,off,spot⟩:=a
  have hs:spot=none:=by
   have:=World.cell?_spot (h.2 _ rfl 0 h0)
   simpa [Addr.add] using this
  subst hs
  have h2:∀ j,j < bs.length→w.cell? ⟨b,off+j,none⟩=some (.int .u8 (bs.getD j 0)):=fun j hj=>by
   have:=h.2 _ rfl j hj
   rwa [addr_add] at this
  exact ⟨b,off,rfl,World.block_lt_of_cell? w _ (h2 0 h0),h2⟩
theorem Reads.keptNo {w w':World}{ao:Option Addr}{xs:List Int}(h:Reads w ao xs)(hk:Kept NoB w w'):Reads w' ao xs:=h.kept hk (fun _ _ h=>h)
theorem Kept.cell {w w':World}(hk:Kept NoB w w'){a:Addr}{v:Value}(h:w.cell? a=some v):w'.cell? a=some v:=
 (World.cell?_of_block (hk.block _ (World.block_lt_of_cell? w a h) (fun h=>h))).trans h
theorem lit_reads {w:World}{g:Nat}{cs:Array Value}{t:TypeId}{fr:Nat × Nat}(bs:List Int)(h:w.heap[g]?=some (.cells cs t fr))(hc:cs.toList=bs.map (.int .u8)):Reads w (some ⟨g,0,none⟩) bs:=by
 refine ⟨(fun h=>by cases h),?_⟩
 intro a ha i hi
 cases ha
 rw [addr_add,Nat.zero_add,cell_of_row w g i cs t fr h]
 rw [← Array.getElem?_toList,hc]
 simp [List.getD,hi]
theorem cell_new {w:World}{cs:Array Value}{t:TypeId}{k:Nat}(i:Nat)(hk:k=w.heap.size):(w.alloc (.cells cs t)).cell? ⟨k,i,none⟩=cs[i]?:=by
 subst hk;exact cell_of_row _ _ _ cs t (0,0) (heap_alloc_new _ _)
theorem own_cap {w:World}{base e n cap:Nat}{ao:Option Addr}{xs:List Value}(h:w.ownsRow base e 1 (.slice ao n cap) n xs):n≤cap∧cap≤maxLen:=by
 rcases h.2 with ⟨hv,hn⟩ | ⟨g,c,cur,hv,_,_,h1,h2,_⟩
 ·simp at hv;obtain ⟨_,rfl,rfl⟩:=hv;exact ⟨Nat.le_refl _,Nat.zero_le _⟩
 ·simp at hv;obtain ⟨_,rfl⟩:=hv;exact ⟨h1,h2⟩
theorem own_nil {w:World}{base e n cap:Nat}{ao:Option Addr}{xs:List Value}(h:w.ownsRow base e 1 (.slice ao n cap) n xs):ao=none→cap=0:=by
 intro ha
 subst ha
 rcases h.2 with ⟨hv,hn⟩ | ⟨g,c,cur,hv,_⟩
 ·simp at hv;exact hv.2
 ·simp at hv
theorem conv_reads {w:World}{ao:Option Addr}{n cap:Nat}{xs:List Int}(h:Reads w ao xs)(hn:n=xs.length)(h0:ao=none→cap=0):
  (convert 22 9 (.slice ao n cap)).run Tryz.prog w = .ok (.string (strOfNums xs)) w:=by
 subst hn
 by_cases hx:xs=[]
 ·subst hx
  cases ao with
  | none=>exact run_convert_bytes_nil (P:=Tryz.prog) w _ 5 Tryz.underlying22 Tryz.underlying5 _ _ _ Tryz.underlying9
  | some a=>
   show (convert 22 9 (.slice (some a) 0 cap)).run Tryz.prog w = .ok (.string (strOfNums [])) w
   rw [run_convert_bytes_string w 22 9 5 (some a) 0 cap Tryz.underlying22 Tryz.underlying5 Tryz.underlying9]
   simp [Conv.bytesToString,loadCells,loadCellsFrom]
   rfl
 ·obtain ⟨b,off,rfl,_,hc⟩:=h.at (by cases xs with | nil=>exact absurd rfl hx | cons=>simp)
  exact run_convert_bytes_arg (P:=Tryz.prog) w _ 5 Tryz.underlying22 Tryz.underlying5 b off xs.length cap xs rfl hc _ Tryz.underlying9
theorem reads_take {w:World}{x:Addr}{bs:List Int}(k:Nat)(h:Reads w (some x) bs):Reads w (some x) (bs.take k):=by
 refine ⟨(fun h=>by cases h),?_⟩
 intro a ha i hi
 cases ha
 rw [List.length_take] at hi
 rw [h.2 x rfl i (by omega)]
 simp [List.getD,show i < k from by omega]
theorem reads_drop {w:World}{x:Addr}{bs:List Int}(k:Nat)(h:Reads w (some x) bs):Reads w (some (x.add k)) (bs.drop k):=by
 refine ⟨(fun h=>by cases h),?_⟩
 intro a ha i hi
 cases ha
 rw [List.length_drop] at hi
 rw [Go.Deep.add_add,h.2 x rfl (k+i) (by omega)]
 simp [List.getD]
theorem reads_empty {w:World}{x:Addr}:Reads w (some x) []:=⟨(fun h=>by cases h),(fun a _ i hi=>by simp at hi)⟩
theorem own_block {w:World}{base n cap:Nat}{ao:Option Addr}{xs:List Value}{e:TypeId}(h:w.ownsRow base e 1 (.slice ao n cap) n xs){a:Addr}(ha:ao=some a):(Value.slice ao n cap).ownBlock=some a.block:=by
 subst ha
 rcases h.2 with ⟨hv,_⟩ | ⟨g,c,cur,hv,_⟩
 ·simp at hv
 ·simp at hv;rw [hv.1];rfl
theorem reads_news {w:World}{x:Addr}{xs:List Int}(h:Reads w (some x) xs):∀ (j:Nat) (u:Value),(xs.map (Value.int .u8))[j]?=some u→w.cell? (x.add j)=some u:=by
 intro j u hj
 have hjl:j < xs.length:=by have:=(List.getElem?_eq_some_iff.1 hj).1;simpa using this
 rw [h.2 x rfl j hjl]
 have e:(xs.map (Value.int .u8))[j]?=some (Value.int .u8 (xs.getD j 0)):=by simp [List.getD,List.getElem?_eq_getElem hjl]
 rw [e] at hj
 exact hj
theorem news_one (xs:List Int):∀ u∈xs.map (Value.int .u8),u.oneCell'=true:=by intro u hu;obtain ⟨y,_,rfl⟩:=List.mem_map.1 hu;rfl
theorem str_extract3 (bs:List Int)(a n:Nat):(strOfNums bs).extract a (a+n)=strOfNums ((bs.drop a).take n):=by
 apply ByteArray.ext
 apply Array.ext'
 rw [strOfNums_data]
 simp [strOfNums_data,List.map_take,List.map_drop]
end Go.Proofs.YtfmjfgmbjdhogaaGreatDoor
