import Derived.Test.YtfmjfgmbjdhogaaGreatDoorMb10
import Derived.Deep.MidRow
import Derived.BigRegion
import Derived.Deep.RegionLaw
import Derived.Test.YtfmjfgmbjdhogaaGreatDoorRows
import Derived.Deep.DeepCutAuto
set_option linter.unusedVariables false
set_option linter.unusedSimpArgs false
set_option maxRecDepth 20000
set_option maxHeartbeats 8000000
namespace Go.Proofs.YtfmjfgmbjdhogaaGreatDoor
open Go.RowKit
def cat3 (cnt fst frm:List Int)(pl:Value)(full:Bool):List Value:=cnt.map (.int .i64)++(fst.map (.int .i64)++(frm.map (.int .i64)++[pl,.bool full]))
structure DecSt (D:Nat)(w:World)(cnt fst frm:List Int)(pl:Value)(full:Bool):Prop where
 l1:cnt.length=16
 l2:fst.length=16
 l3:frm.length=16
 obj:w.heap[D]?=some (.cells (cat3 cnt fst frm pl full).toArray 236 (0,0))
theorem cat3_len (cnt fst frm:List Int)(pl:Value)(full:Bool)(h1:cnt.length=16)(h2:fst.length=16)(h3:frm.length=16):(cat3 cnt fst frm pl full).length=50:=by simp [cat3,h1,h2,h3]
section
variable {D : Nat} {w : World} {cnt fst frm : List Int} {pl : Value} {full : Bool}
theorem DecSt.atC (h:DecSt D w cnt fst frm pl full)(i:Nat)(hi:i < 16):w.cell? ⟨D,i,none⟩=some (.int .i64 (cnt.getD i 0)):=by
 rw [obj_cell h.obj i]
 have:=h.l1
 simp [cat3,List.getElem?_append_left,List.getD,this,hi]
theorem DecSt.atF (h:DecSt D w cnt fst frm pl full)(i:Nat)(hi:i < 16):w.cell? ⟨D,16+i,none⟩=some (.int .i64 (fst.getD i 0)):=by
 rw [obj_cell h.obj]
 have:=h.l1;have h2:=h.l2
 rw [List.getElem?_toArray]
 unfold cat3
 rw [List.getElem?_append_right (by simp;omega),List.getElem?_append_left (by simp;omega)]
 simp [this,List.getD,h2,hi]
theorem DecSt.atM (h:DecSt D w cnt fst frm pl full)(i:Nat)(hi:i < 16):w.cell? ⟨D,32+i,none⟩=some (.int .i64 (frm.getD i 0)):=by
 rw [obj_cell h.obj]
 have:=h.l1;have h2:=h.l2;have h3:=h.l3
 rw [List.getElem?_toArray]
 unfold cat3
 rw [List.getElem?_append_right (by simp;omega),List.getElem?_append_right (by simp;omega),List.getElem?_append_left (by simp;omega)]
 have e:32+i - (List.map (Value.int .i64) cnt).length - (List.map (Value.int .i64) fst).length=i:=by simp;omega
 rw [e]
 simp [List.getD,h3,hi]
theorem DecSt.atP (h:DecSt D w cnt fst frm pl full):w.cell? ⟨D,48,none⟩=some pl:=by
 rw [obj_cell h.obj]
 have:=h.l1;have h2:=h.l2;have h3:=h.l3
 rw [List.getElem?_toArray]
 unfold cat3
 rw [List.getElem?_append_right (by simp;omega),List.getElem?_append_right (by simp;omega),List.getElem?_append_right (by simp;omega)]
 simp [this,h2,h3]
theorem DecSt.atB (h:DecSt D w cnt fst frm pl full):w.cell? ⟨D,49,none⟩=some (.bool full):=by
 rw [obj_cell h.obj]
 have:=h.l1;have h2:=h.l2;have h3:=h.l3
 rw [List.getElem?_toArray]
 unfold cat3
 rw [List.getElem?_append_right (by simp;omega),List.getElem?_append_right (by simp;omega),List.getElem?_append_right (by simp;omega)]
 simp [this,h2,h3]
theorem DecSt.free (h:DecSt D w cnt fst frm pl full)(j:Nat):w.frozen? ⟨D,j,none⟩=false:=obj_free h.obj j
theorem DecSt.kept {S:Nat→Prop}{w':World}(h:DecSt D w cnt fst frm pl full)(hk:Kept S w w')(hs:¬ S D):DecSt D w' cnt fst frm pl full:=⟨h.l1,h.l2,h.l3,hk.obj h.obj hs⟩
theorem DecSt.setCnt (h:DecSt D w cnt fst frm pl full)(i:Nat)(hi:i < 16)(x:Int):DecSt D (w.setCell ⟨D,i,none⟩ (.int .i64 x)) (cnt.set i x) fst frm pl full:=
 ⟨by rw [List.length_set];exact h.l1,h.l2,h.l3,by
  rw [obj_set h.obj i _]
  have h1:=h.l1
  rw [List.setIfInBounds_toArray]
  unfold cat3
  rw [List.set_append_left _ _ (by simp;omega),List.map_set]⟩
theorem DecSt.setFrm (h:DecSt D w cnt fst frm pl full)(i:Nat)(hi:i < 16)(x:Int):DecSt D (w.setCell ⟨D,32+i,none⟩ (.int .i64 x)) cnt fst (frm.set i x) pl full:=
 ⟨h.l1,h.l2,by rw [List.length_set];exact h.l3,by
  rw [obj_set h.obj _ _]
  have h1:=h.l1;have h2:=h.l2;have h3:=h.l3
  rw [List.setIfInBounds_toArray]
  unfold cat3
  have e:32+i - (List.map (Value.int .i64) cnt).length - (List.map (Value.int .i64) fst).length=i:=by simp only [List.length_map];omega
  rw [List.set_append_right _ _ (by simp;omega),List.set_append_right _ _ (by simp;omega),e,List.set_append_left _ _ (by simp;omega),List.map_set]⟩
theorem DecSt.setPl (h:DecSt D w cnt fst frm pl full)(x:Value):DecSt D (w.setCell ⟨D,48,none⟩ x) cnt fst frm x full:=
 ⟨h.l1,h.l2,h.l3,by
  rw [obj_set h.obj _ _]
  have h1:=h.l1;have h2:=h.l2;have h3:=h.l3
  rw [List.setIfInBounds_toArray]
  unfold cat3
  rw [List.set_append_right _ _ (by simp;omega),List.set_append_right _ _ (by simp;omega),List.set_append_right _ _ (by simp;omega)]
  simp [h1,h2,h3]⟩
end
theorem setCells_cells {D:Nat}{ty:TypeId}:∀ (vs:List Value) (o:Nat) (w:World) (ds:List Value),w.heap[D]?=some (.cells ds.toArray ty (0,0))→o+vs.length≤ds.length→
  (w.setCells D o vs).heap[D]?=some (.cells (ds.take o++(vs++ds.drop (o+vs.length))).toArray ty (0,0))
 | [],o,w,ds,h,_=>by
  show w.heap[D]?=_
  rw [h];simp
 | v :: r,o,w,ds,h,hl=>by
  simp only [List.length_cons] at hl
  have h1:=obj_set h o v
  rw [List.setIfInBounds_toArray] at h1
  have ih:=setCells_cells r (o+1) (w.setCell ⟨D,o,none⟩ v) (ds.set o v) h1 (by rw [List.length_set];omega)
  rw [World.setCells,ih]
  have e1:(ds.set o v).take (o+1)=ds.take o++[v]:=by
   rw [List.take_succ_eq_append_getElem (by rw [List.length_set];omega)]
   simp [List.take_set_of_le]
  have e2:(ds.set o v).drop (o+1+r.length)=ds.drop (o+(v :: r).length):=by
   rw [List.drop_set_of_lt (by omega)]
   simp only [List.length_cons]
   congr 1;omega
  rw [e1,e2]
  simp
theorem Kept.setCells {S:Nat→Prop}{a:World}{D:Nat}:∀ (vs:List Value) (o:Nat) (b:World),Kept S a b→(S D∨a.heap.size≤D)→Kept S a (b.setCells D o vs)
 | [],o,b,h,_=>h
 | v :: r,o,b,h,hp=>by
  rw [World.setCells]
  exact Kept.setCells r (o+1) _ (Kept.setCell (p:=⟨D,o,none⟩) h hp v) hp
section
variable {D : Nat} {w : World} {cnt fst frm : List Int} {pl : Value} {full : Bool}
theorem DecSt.rowCnt (h:DecSt D w cnt fst frm pl full)(zs:List Int)(hz:zs.length=16):DecSt D (w.setCells D 0 (arrC zs).toList) zs fst frm pl full:=
 ⟨hz,h.l2,h.l3,by
  have h1:=h.l1
  rw [setCells_cells _ 0 w _ h.obj (by rw [cat3_len _ _ _ _ _ h.l1 h.l2 h.l3];simp [arrC,hz])]
  unfold cat3
  rw [List.take_zero,List.nil_append,List.drop_append_of_le_length (by simp [arrC,hz,h1]),List.drop_of_length_le (by simp [arrC,hz,h1])]
  simp [arrC]⟩
theorem DecSt.rowFst (h:DecSt D w cnt fst frm pl full)(zs:List Int)(hz:zs.length=16):DecSt D (w.setCells D 16 (arrC zs).toList) cnt zs frm pl full:=
 ⟨h.l1,hz,h.l3,by
  have h1:=h.l1;have h2:=h.l2
  rw [setCells_cells _ 16 w _ h.obj (by rw [cat3_len _ _ _ _ _ h.l1 h.l2 h.l3];simp [arrC,hz])]
  unfold cat3
  have e1:(List.map (Value.int .i64) cnt++(List.map (Value.int .i64) fst++(List.map (Value.int .i64) frm++[pl,.bool full]))).take 16=List.map (Value.int .i64) cnt:=by
   rw [List.take_append_of_le_length (by simp [h1]),List.take_of_length_le (by simp [h1])]
  have e2:(List.map (Value.int .i64) cnt++(List.map (Value.int .i64) fst++(List.map (Value.int .i64) frm++[pl,.bool full]))).drop (16+(arrC zs).toList.length)=List.map (Value.int .i64) frm++[pl,.bool full]:=by
   have e3:16+(arrC zs).toList.length=(List.map (Value.int .i64) cnt++List.map (Value.int .i64) fst).length:=by simp [arrC,hz,h1,h2]
   rw [e3,← List.append_assoc,List.drop_left]
  rw [e1,e2]
  simp [arrC]⟩
theorem DecSt.stores (h:DecSt D w cnt fst frm pl full)(o:Nat)(ho:o+16≤50)(zs:List Int)(hz:zs.length=16):(storeCells ⟨D,o,none⟩ (arrC zs).toList).run Tryz.prog w = .ok () (w.setCells D o (arrC zs).toList):=by
 have:=run_storeCells_cells (P:=Tryz.prog) D o (arrC zs).toList 0 w (fun j hj=>by
  rw [obj_cell h.obj,List.getElem?_toArray]
  rw [List.getElem?_eq_getElem (by rw [cat3_len _ _ _ _ _ h.l1 h.l2 h.l3];simp [arrC,hz] at hj;omega)];rfl) (fun j _=>h.free _) (fun v hv=>by
  simp [arrC] at hv
  obtain ⟨x,_,rfl⟩:=hv
  rfl)
 simpa using this
theorem DecSt.range1 (h:DecSt D w cnt fst frm pl full):w.rangeAt D 0 (cnt.map (.int .i64)):=by
 intro j v hv
 have hj:j < 16:=by have:=(List.getElem?_eq_some_iff.1 hv).1;simp [h.l1] at this;exact this
 rw [Nat.zero_add,h.atC j hj,← hv]
 have:=h.l1
 simp [List.getD,this,hj]
theorem DecSt.range3 (h:DecSt D w cnt fst frm pl full):w.rangeAt D 32 (frm.map (.int .i64)):=by
 intro j v hv
 have hj:j < 16:=by have:=(List.getElem?_eq_some_iff.1 hv).1;simp [h.l3] at this;exact this
 rw [h.atM j hj,← hv]
 have:=h.l3
 simp [List.getD,this,hj]
end
def sN (cs:List Int):Nat→Int
 | 0=>0
 | n+1=>sN cs n+cs.getD n 0
def fromP (cs:List Int)(n:Nat):List Int:=(List.range 16).map (fun m:Nat=>if m < n then sN cs m else 0)
theorem fromP_len (cs:List Int)(n:Nat):(fromP cs n).length=16:=by simp [fromP]
theorem fromP_one (cs:List Int):fromP cs 1=zer16:=by
 apply List.ext_getElem (by simp [fromP,zer16])
 intro i h1 h2
 simp only [fromP,List.getElem_map,List.getElem_range,zer16,List.getElem_replicate]
 split
 ·have:i=0:=by omega
  subst this;rfl
 ·rfl
theorem fromP_step (cs:List Int)(n:Nat)(h:n < 16):fromP cs (n+1)=(fromP cs n).set n (sN cs n):=by
 apply List.ext_getElem (by simp [fromP])
 intro i h1 h2
 rw [List.getElem_set]
 simp only [fromP,List.getElem_map,List.getElem_range]
 by_cases e:n=i
 ·subst e;rw [if_pos (by omega),if_pos rfl]
 ·rw [if_neg e]
  by_cases h3:i < n
  ·rw [if_pos (by omega),if_pos h3]
  ·rw [if_neg (by omega),if_neg h3]
theorem fromP_get (cs:List Int)(n m:Nat)(h:m < 16)(hn:m < n):(fromP cs n).getD m 0=sN cs m:=by simp [fromP,List.getD,h,hn]
def cnt0 (ls:List Int):List Int:=(cntsL ls).set 0 0
theorem cnt0_get (ls:List Int)(n:Nat)(h:n < 16):(cnt0 ls).getD n 0=if n=0 then 0 else ((ls.count (n:Int):Nat):Int):=by
 unfold cnt0
 by_cases e:n=0
 ·subst e;simp [List.getD,cnts_len]
 ·rw [if_neg e,← cnts_get ls n h]
  simp [List.getD,List.getElem?_set_ne (show 0≠n by omega)]
theorem fC_cnt0 (ls:List Int):∀ n,fC (cnt0 ls) n=fC (cntsL ls) n
 | 0=>rfl
 | 1=>rfl
 | n+2=>by
  have ih:=fC_cnt0 ls (n+1)
  have e:(cnt0 ls).getD (n+1) 0=(cntsL ls).getD (n+1) 0:=by
   unfold cnt0
   simp [List.getD,List.getElem?_set_ne (show 0≠n+1 by omega)]
  show (fC (cnt0 ls) (n+1)+(cnt0 ls).getD (n+1) 0)*2=(fC (cntsL ls) (n+1)+(cntsL ls).getD (n+1) 0)*2
  rw [ih,e]
theorem firsts_cnt0 (ls:List Int):firstsP (cnt0 ls) 16=firstsP (cntsL ls) 16:=by
 unfold firstsP
 apply List.map_congr_left
 intro m _
 rw [fC_cnt0]

def nextQ (ls:List Int)(j:Nat):List Int:=(List.range 16).map (fun n:Nat=>sN (cnt0 ls) n+(if n=0 then 0 else (((ls.take j).count (n:Int):Nat):Int)))
theorem nextQ_get (ls:List Int)(j n:Nat)(h:n < 16):(nextQ ls j).getD n 0=sN (cnt0 ls) n+(if n=0 then 0 else (((ls.take j).count (n:Int):Nat):Int)):=by simp [nextQ,List.getD,h]
theorem nextQ_zero (ls:List Int):nextQ ls 0=fromP (cnt0 ls) 16:=by
 apply List.ext_getElem (by simp [nextQ,fromP])
 intro i h1 h2
 have hi:i < 16:=by simpa [nextQ] using h1
 simp [nextQ,fromP,hi]
theorem nextQ_step (ls:List Int)(j z:Nat)(h:j < ls.length)(hz:ls.getD j 0=(z:Int))(h1:1≤z)(h15:z < 16):nextQ ls (j+1)=(nextQ ls j).set z ((nextQ ls j).getD z 0+1):=by
 obtain ⟨v,hv⟩:∃ v,v=(nextQ ls j).getD z 0+1:=⟨_,rfl⟩
 rw [← hv]
 rw [nextQ_get _ _ _ h15,if_neg (by omega)] at hv
 apply List.ext_getElem (by simp [nextQ])
 intro i h2 h3
 rw [List.getElem_set]
 simp only [nextQ,List.getElem_map,List.getElem_range]
 rw [take_snoc ls j h,hz,List.count_append]
 by_cases e:z=i
 ·subst e
  rw [if_neg (by omega),if_pos rfl,hv]
  simp;omega
 ·rw [if_neg e]
  have e2:¬ (z:Int)=(i:Int):=by omega
  simp [List.count_cons,e2]
theorem nextQ_same (ls:List Int)(j:Nat)(h:j < ls.length)(hz:ls.getD j 0=0):nextQ ls (j+1)=nextQ ls j:=by
 apply List.ext_getElem (by simp [nextQ])
 intro i h2 h3
 simp only [nextQ,List.getElem_map,List.getElem_range]
 rw [take_snoc ls j h,hz,List.count_append]
 by_cases e:i=0
 ·rw [if_pos e,if_pos e]
 ·have e2:¬ (0:Int)=(i:Int):=by omega
  simp [List.count_cons,e2,e]
theorem cnt0_bd (ls:List Int)(hl:ls.length≤320)(n:Nat):0≤(cnt0 ls).getD n 0∧(cnt0 ls).getD n 0≤320:=by
 by_cases h:n < 16
 ·rw [cnt0_get _ _ h]
  split
  ·omega
  ·have:=List.count_le_length (l:=ls) (a:=(n:Int));omega
 ·have:(cnt0 ls).getD n 0=0:=by simp [List.getD,cnt0,cnts_len,show 16≤n by omega]
  omega
theorem sN_bd (ls:List Int)(hl:ls.length≤320):∀ n,0≤sN (cnt0 ls) n∧sN (cnt0 ls) n≤320*(n:Int)
 | 0=>by simp [sN]
 | n+1=>by
  have ih:=sN_bd ls hl n
  have:=cnt0_bd ls hl n
  simp only [sN]
  omega
theorem sN_mono (ls:List Int)(hl:ls.length≤320)(m:Nat):∀ d,sN (cnt0 ls) m≤sN (cnt0 ls) (m+d)
 | 0=>Int.le_refl _
 | d+1=>by
  have:=sN_mono ls hl m d
  have h2:=cnt0_bd ls hl (m+d)
  rw [show m+(d+1)=(m+d)+1 by omega]
  simp only [sN]
  omega
def posAt (ls:List Int)(i:Nat):Int:=sN (cnt0 ls) (ls.getD i 0).toNat+(((ls.take i).count (ls.getD i 0):Nat):Int)
theorem pos_in (ls:List Int)(hl:ls.length≤320)(i z:Nat)(hi:i < ls.length)(hz:ls.getD i 0=(z:Int))(h1:1≤z)(h15:z < 16):
  sN (cnt0 ls) z≤posAt ls i∧posAt ls i < sN (cnt0 ls) (z+1)∧posAt ls i < sN (cnt0 ls) 16:=by
 have h2:=count_step ls i hi
 have h3:=count_all ls (ls.getD i 0) (i+1)
 rw [hz] at h2 h3
 have hm:=sN_mono ls hl (z+1) (16 - (z+1))
 rw [show z+1+(16 - (z+1))=16 by omega] at hm
 have hs:sN (cnt0 ls) (z+1)=sN (cnt0 ls) z+((ls.count (z:Int):Nat):Int):=by
  simp only [sN]
  rw [cnt0_get _ _ h15,if_neg (by omega)]
 unfold posAt
 rw [hz,Int.toNat_natCast]
 omega
theorem pos_ne (ls:List Int)(hl:ls.length≤320)(hs:Small 15 ls)(i j:Nat)(hi:i < j)(hj:j < ls.length)(h1:0 < ls.getD i 0)(h2:0 < ls.getD j 0):posAt ls i≠posAt ls j:=by
 have b1:=hs.getD i (by omega)
 have b2:=hs.getD j hj
 obtain ⟨a,ha⟩:∃ a:Nat,ls.getD i 0=(a:Int):=⟨(ls.getD i 0).toNat,by omega⟩
 obtain ⟨b,hb⟩:∃ b:Nat,ls.getD j 0=(b:Int):=⟨(ls.getD j 0).toNat,by omega⟩
 have p1:=pos_in ls hl i a (by omega) ha (by omega) (by omega)
 have p2:=pos_in ls hl j b hj hb (by omega) (by omega)
 by_cases e:a=b
 ·subst e
  have c1:=count_step ls i (by omega)
  rw [ha] at c1
  have c2:=count_mono ls (a:Int) (i+1) j (by omega)
  unfold posAt
  rw [ha,hb]
  omega
 ·rcases Nat.lt_or_gt_of_ne e with h | h
  ·have:=sN_mono ls hl (a+1) (b - (a+1))
   rw [show a+1+(b - (a+1))=b by omega] at this
   omega
  ·have:=sN_mono ls hl (b+1) (a - (b+1))
   rw [show b+1+(a - (b+1))=a by omega] at this
   omega
def DecNew (ls:List Int)(D lo:Nat)(w:World):Prop:=
 ∃ (Y M:Nat) (P:List Int),lo≤Y∧lo≤D∧DecSt D w (cnt0 ls) (firstsP (cntsL ls) 16) (fromP (cnt0 ls) 16) (.slice (some ⟨Y,0,none⟩) P.length M) (kindS ls == 3)∧(∀ t,t < P.length→w.cell? ⟨Y,t,none⟩=some (.int .i64 (P.getD t 0)))∧((P.length:Nat):Int)=sN (cnt0 ls) 16∧
  ∀ i,i < ls.length→0 < ls.getD i 0→P.getD (posAt ls i).toNat 0=(i:Int)
theorem new_calls2 (a:Option Addr)(c B:Nat)(ls:List Int)(w:World)(hr:RdI w B a ls)(hs:Small 15 ls)(hl:ls.length≤320)(hk:refS ls=0):
  Calls Tryz.prog 158 #[.slice a ls.length c] w fun e w'=>∃ D,e = .returned (.tuple #[.pointer (some ⟨D,0,none⟩),.int .i64 0])∧DecNew ls D w.heap.size w'∧Kept NoB w w':=by
 have hRf:=refused_calls a c B ls w hr hs hl
 rw [hk] at hRf
 have HRf:=Hd hRf
 have hCn:∀ W,Kept NoB w W→Calls Tryz.prog 133 #[.slice a ls.length c] W fun e w'=>e = .returned (.tuple #[.agg (arrC (cntsL ls)),.bool true])∧Kept NoB W w':=fun W hk=>counts_calls a c B ls W (hr.kept hk (fun _ _ h=>h)) hs hl
 have HCn:=Hd hCn
 have hKd:∀ W,Kept NoB w W→Calls Tryz.prog 162 #[.slice a ls.length c] W fun e w'=>e = .returned (.int .i64 (kindS ls))∧Kept NoB W w':=fun W hk=>kind_calls a c B ls W (hr.kept hk (fun _ _ h=>h)) hs hl
 have HKd:=Hd hKd
 have hFi:∀ W,Calls Tryz.prog 134 #[.agg (arrC (cnt0 ls))] W fun e w'=>e = .returned (.agg (arrC (firstsP (cntsL ls) 16)))∧Kept NoB W w':=fun W=>by
  have:=firsts_calls (cnt0 ls) W (by unfold cnt0;rw [List.length_set,cnts_len]) (cnt0_bd ls hl)
  rw [firsts_cnt0] at this
  exact this
 have HFi:=Hd hFi
 have HR:=Hd hr;have HS:=Hd hs
 obtain ⟨n,hn⟩:∃ n,n=ls.length:=⟨_,rfl⟩
 have HN:=Hd hn
 rw [← hn] at hl HRf HCn HKd ⊢
 obtain ⟨kd,hkd⟩:∃ kd,kd=kindS ls:=⟨_,rfl⟩
 have HKe:=Hd hkd
 rw [← hkd] at HKd
 clear hr hs hn hCn hRf hk hkd hKd hFi
 go_enter Tryz.func158,Tryz.ntmps158
 go_wp2_with fail
 refine HRf.out.mono ?_
 rintro e w1 ⟨rfl,hk⟩
 have HK1:=Hd hk
 clear hk
 go_wp2_with fail
 refine (HKd.out _ HK1.out).mono ?_
 rintro e w2 ⟨rfl,hk⟩
 have HK2:=Hd (HK1.out.trans hk)
 clear hk
 go_upto_region 5 with fail
 obtain ⟨w3,hw3⟩:∃ w3,w3=w2.alloc (.cells (cat3 zer16 zer16 zer16 (.slice none 0 0) (kd == 3)).toArray 236):=⟨_,rfl⟩
 have hD:DecSt w2.heap.size w3 zer16 zer16 zer16 (.slice none 0 0) (kd == 3):=⟨rfl,rfl,rfl,by rw [hw3];exact heap_alloc_new w2 _⟩
 have hk3:Kept NoB w w3:=by rw [hw3];exact HK2.out.alloc _
 obtain ⟨D,hDe⟩:∃ D,D=w2.heap.size:=⟨_,rfl⟩
 have hwD:w.heap.size≤D:=by rw [hDe];exact HK2.out.size
 have hgw:(w2.alloc (.cells (cat3 zer16 zer16 zer16 (.slice none 0 0) (kd == 3)).toArray 236))=w3:=hw3.symm
 change Code.wp _ _ _ _ (w2.alloc (.cells (cat3 zer16 zer16 zer16 (.slice none 0 0) (kd == 3)).toArray 236))
 rw [hgw]
 rw [← hDe] at hD ⊢
 have HD1:=Hd hD;have HK3:=Hd hk3
 clear hw3 hD hk3 hgw hDe
 have hsz:(arrC (cntsL ls)).size=16:=by rw [arrC_size,cnts_len]
 have hsz2:(arrC (firstsP (cntsL ls) 16)).size=16:=by rw [arrC_size,firstsP_len]
 go_wp2_with fail
 refine (HCn.out _ HK3.out).mono ?_
 rintro e w4 ⟨rfl,hk⟩
 have hD4:=HD1.out.kept hk (fun h=>h)
 have hst:=hD4.stores 0 (by omega) (cntsL ls) (cnts_len _)
 have hD5:=hD4.rowCnt (cntsL ls) (cnts_len _)
 have hK5:Kept NoB w (w4.setCells D 0 (arrC (cntsL ls)).toList):=Kept.setCells _ _ _ (HK3.out.trans hk) (.inr hwD)
 have HD5:=Hd hD5;have HK5:=Hd hK5
 clear hk hD4 hD5 hK5 HD1 HK3
 go_upto_region 6 with fail
 clear hst
 obtain ⟨w5,hw5⟩:∃ w5,w5=w4.setCells D 0 (arrC (cntsL ls)).toList:=⟨_,rfl⟩
 rw [← hw5] at HD5 HK5 ⊢
 have f0:=HD5.out.free 0
 have d0:=HD5.out.atC 0 (by omega)
 have hD6:=HD5.out.setCnt 0 (by omega) 0
 have hK6:Kept NoB w (w5.setCell ⟨D,0,none⟩ (.int .i64 0)):=Kept.setCell (p:=⟨D,0,none⟩) HK5.out (.inr hwD) _
 have HD6:Hid (DecSt D (w5.setCell ⟨D,0,none⟩ (.int .i64 0)) (cnt0 ls) zer16 zer16 (.slice none 0 0) (kd == 3)):=Hd hD6
 have HK6:=Hd hK6
 clear hw5 hD6 hK6
 go_upto_region 7 with fail
 clear f0 d0
 obtain ⟨w6,hw6⟩:∃ w6,w6=w5.setCell ⟨D,0,none⟩ (.int .i64 0):=⟨_,rfl⟩
 rw [← hw6] at HD6 HK6 ⊢
 clear hw6 HD5 HK5
 have hc0l:((cnt0 ls).map (Value.int .i64)).length=16:=by rw [List.length_map];exact HD6.out.l1
 go_wp2_with (refine wpList_load_mid rfl 194 (.tmp 35) rfl D 0 rfl ((cnt0 ls).map (.int .i64)) (.array 16 3) HD6.out.range1 Tryz.underlying194 rfl (by rw [hc0l];exact info16) ?_)
 refine (HFi.out _).mono ?_
 rintro e w7 ⟨rfl,hk⟩
 have hD7:=HD6.out.kept hk (fun h=>h)
 have hst:=hD7.stores 16 (by omega) (firstsP (cntsL ls) 16) (firstsP_len _ _)
 have hD8:=hD7.rowFst (firstsP (cntsL ls) 16) (firstsP_len _ _)
 have hK8:Kept NoB w (w7.setCells D 16 (arrC (firstsP (cntsL ls) 16)).toList):=Kept.setCells _ _ _ (HK6.out.trans hk) (.inr hwD)
 have HD8:=Hd hD8;have HK8:=Hd hK8
 clear hk hD7 hD8 hK8 HD6 HK6
 go_upto_region 8 with fail
 clear hst
 obtain ⟨w8,hw8⟩:∃ w8,w8=w7.setCells D 16 (arrC (firstsP (cntsL ls) 16)).toList:=⟨_,rfl⟩
 rw [← hw8] at HD8 HK8 ⊢
 rw [← fromP_one (cnt0 ls)] at HD8
 clear hw8
 go_wp2
 go_loopw [6] (fun v6 wr=>∃ m:Nat,v6 = .int .i64 (m:Int)∧1≤m∧m≤16∧Hid (DecSt D wr (cnt0 ls) (firstsP (cntsL ls) 16) (fromP (cnt0 ls) m) (.slice none 0 0) (kd == 3))∧Hid (Kept NoB w wr)) (fun v6 _=>17 - (intOf v6).toNat)
 case atStart=>exact ⟨1,rfl,by omega,by omega,HD8,HK8⟩
 case round=>
  clear HD8 HK8
  obtain ⟨m,rfl,hm1,hm16,HD,HK⟩:=hrel
  by_cases hlt:(m:Int)≤15
  ·obtain ⟨q,hq⟩:∃ q,q+1=m:=⟨m - 1,by omega⟩
   have d0:=HD.out.atM q (by omega)
   rw [fromP_get _ _ _ (by omega) (by omega)] at d0
   have d1:=HD.out.atC q (by omega)
   have d2:=HD.out.atM m (by omega)
   have f2:=HD.out.free (32+m)
   have b1:=sN_bd ls (by rw [← HN.out];exact hl) q
   have b2:=cnt0_bd ls (by rw [← HN.out];exact hl) q
   have hstep:=fromP_step (cnt0 ls) m (by omega)
   have hsn:sN (cnt0 ls) m=sN (cnt0 ls) q+(cnt0 ls).getD q 0:=by rw [← hq];rfl
   have hput:=HD.out.setFrm m (by omega) (sN (cnt0 ls) m)
   rw [← hstep,hsn] at hput
   have hkp:Kept NoB w (wr.setCell ⟨D,32+m,none⟩ (.int .i64 (sN (cnt0 ls) q+(cnt0 ls).getD q 0))):=Kept.setCell (p:=⟨D,32+m,none⟩) HK.out (.inr hwD) _
   obtain ⟨x,hx⟩:∃ x,x=sN (cnt0 ls) q:=⟨_,rfl⟩
   obtain ⟨y,hy⟩:∃ y,y=(cnt0 ls).getD q 0:=⟨_,rfl⟩
   rw [← hx] at d0 b1 hput hkp
   rw [← hy] at d1 b2 hput hkp
   have HP:=Hd hput;have HKp:=Hd hkp
   have e1:=i64_pred m q hq (by omega)
   have g1:(q:Int) < 16:=by omega
   have g2:(m:Int) < 16:=by omega
   have g3:q < 16:=by omega
   have g4:m < 16:=by omega
   clear hq hstep hsn hput hkp hx hy
   go_upto_region 11 with fail
   go_region
   have HP2:=Hd (HP.out.kept (Kept.drew (Kept.refl NoB _)) (fun h=>h));have HKp2:=Hd (HKp.out.drew)
   go_wp2
   go_roundw
   case rel=>exact ⟨m+1,by go_num,by omega,by omega,HP2,HKp2⟩
   case measure=>simp [intOf];omega
  ·have hm:m=16:=by omega
   subst hm
   have hl3:ls.length≤320:=by rw [← HN.out];exact hl
   have b0:=sN_bd ls hl3 16
   have hsn:sN (cnt0 ls) 16=sN (cnt0 ls) 15+(cnt0 ls).getD 15 0:=rfl
   have b1:=sN_bd ls hl3 15
   have b2:=cnt0_bd ls hl3 15
   have d0:=HD.out.atM 15 (by omega)
   rw [fromP_get _ _ _ (by omega) (by omega)] at d0
   have d1:=HD.out.atC 15 (by omega)
   obtain ⟨M,hM⟩:∃ M:Nat,(M:Int)=sN (cnt0 ls) 16:=⟨(sN (cnt0 ls) 16).toNat,by omega⟩
   rw [hsn] at hM
   have hM6:M≤6000:=by omega
   obtain ⟨x,hx⟩:∃ x,x=sN (cnt0 ls) 15:=⟨_,rfl⟩
   obtain ⟨y,hy⟩:∃ y,y=(cnt0 ls).getD 15 0:=⟨_,rfl⟩
   rw [← hx] at d0 b1 hM
   rw [← hy] at d1 b2 hM
   have e1:IntKind.i64.wrap (x+y)=(M:Int):=by rw [IntWalk.i64_in _ (by omega)];exact hM.symm
   obtain ⟨i0,hi,hz0,hz1,hz2⟩:=info_parts infoI
   obtain ⟨w9,hmk,hown,hgrow⟩:=run_make_full (P:=Tryz.prog) wr.drew 0 30 3 i0 (.int .i64 0) 1 Tryz.underlying30 hi hz0 hz1 .i64 .i64 M (by rw [hz2];omega) (by unfold maxLen;omega) (Nat.zero_le _)
   have hk9:Kept NoB wr w9:=(Kept.drew (Kept.refl _ _)).grown hgrow (fun k _ e=>by cases e)
   have hD9:=HD.out.kept hk9 (fun h=>h)
   have f9:=hD9.free 48
   have d9:=hD9.atP
   have hG:(wr.drew).heap.size=wr.heap.size:=rfl
   rw [hG] at hmk hown
   have HD9:=Hd hD9;have HOwn:=Hd hown;have HK9:=Hd (HK.out.trans hk9)
   have HM:Hid ((M:Int)=sN (cnt0 ls) 16):=Hd (by rw [hsn,← hx,← hy];exact hM)
   clear hk9 hD9 hx hy hsn b0 hown hgrow hG hM
   go_upto_region 12 with fail
   go_region
   have hD10:=HD9.out.setPl (.slice (some ⟨wr.heap.size,0,none⟩) M M)
   have hDlt:D < wr.heap.size:=obj_lt HD.out.obj
   have hks:Kept (fun k=>k=D) w9 (w9.setCell ⟨D,48,none⟩ (.slice (some ⟨wr.heap.size,0,none⟩) M M)):=Kept.setCell (S:=fun k=>k=D) (p:=⟨D,48,none⟩) (Kept.refl _ w9) (.inl rfl) _
   have hO10:=hks.row HOwn.out (fun k e=>by simp [Value.ownBlock] at e;omega)
   rw [show (Value.int .i64 0).cells=#[Value.int .i64 0] from rfl,Nat.mul_one,toList_madeCells_one] at hO10
   have hK10:Kept NoB w (w9.setCell ⟨D,48,none⟩ (.slice (some ⟨wr.heap.size,0,none⟩) M M)):=Kept.setCell (p:=⟨D,48,none⟩) HK9.out (.inr hwD) _
   obtain ⟨w10,hw10⟩:∃ w10,w10=w9.setCell ⟨D,48,none⟩ (.slice (some ⟨wr.heap.size,0,none⟩) M M):=⟨_,rfl⟩
   rw [← hw10] at hD10 hO10 hK10 ⊢
   obtain ⟨Y,hY⟩:∃ Y,Y=wr.heap.size:=⟨_,rfl⟩
   rw [← hY] at hD10 hO10 hDlt
   have hYlt:Y < w10.heap.size:=(hO10.lt Y rfl).2
   have HD10:=Hd hD10;have HO10:=Hd hO10;have HK10:=Hd hK10
   have hwY:w.heap.size≤Y:=by rw [hY];exact HK.out.size
   clear hD10 hks hO10 hK10 hw10 HD9 HOwn HK9 HD HK d0 d1 f9 d9 hmk e1
   have hf0l:((fromP (cnt0 ls) 16).map (Value.int .i64)).length=16:=by rw [List.length_map,fromP_len]
   have hfar:((fromP (cnt0 ls) 16).map (Value.int .i64)).toArray=arrC (fromP (cnt0 ls) 16):=rfl
   have hsz3:(arrC (fromP (cnt0 ls) 16)).size=16:=by rw [arrC_size,fromP_len]
   have hA0:Arr16 w10.heap.size (w10.alloc (.cells (arrC zer16) 194)) zer16:=⟨rfl,heap_alloc_new w10 _⟩
   have hst:=store16 hA0 (fromP (cnt0 ls) 16) (fromP_len _ _)
   have hA1:=hA0.row (fromP (cnt0 ls) 16) (fromP_len _ _)
   have hkA:Kept NoB w10 ((w10.alloc (.cells (arrC zer16) 194)).setRow w10.heap.size (arrC (fromP (cnt0 ls) 16))):=((Kept.refl _ _).alloc _).setRow (.inr (Nat.le_refl _)) _
   have hze:arrC zer16=#[.int .i64 0,.int .i64 0,.int .i64 0,.int .i64 0,.int .i64 0,.int .i64 0,.int .i64 0,.int .i64 0,.int .i64 0,.int .i64 0,.int .i64 0,.int .i64 0,.int .i64 0,.int .i64 0,.int .i64 0,.int .i64 0]:=rfl
   rw [hze] at hst hA1 hkA
   have HA1:=Hd hA1;have HkA:=Hd hkA
   clear hA0 hA1 hkA hze
   go_upto_region 13 with fail
   go_wp2_with (refine wpList_load_mid rfl 194 (.tmp 81) rfl D 32 rfl ((fromP (cnt0 ls) 16).map (.int .i64)) (.array 16 3) HD10.out.range3 Tryz.underlying194 rfl (by rw [hf0l];exact info16) ?_)
   have hk11:=HkA.out
   have hA11:=HA1.out
   obtain ⟨w11,hw11⟩:∃ w11,w11=(w10.alloc (.cells #[.int .i64 0,.int .i64 0,.int .i64 0,.int .i64 0,.int .i64 0,.int .i64 0,.int .i64 0,.int .i64 0,.int .i64 0,.int .i64 0,.int .i64 0,.int .i64 0,.int .i64 0,.int .i64 0,.int .i64 0,.int .i64 0] 194)).setRow w10.heap.size (arrC (fromP (cnt0 ls) 16)):=⟨_,rfl⟩
   rw [← hw11] at hk11 hA11 ⊢
   rw [← nextQ_zero] at hA11
   obtain ⟨G,hG⟩:∃ G,G=w10.heap.size:=⟨_,rfl⟩
   rw [← hG] at hA11 hYlt ⊢
   have hD11:=HD10.out.kept hk11 (fun h=>h)
   have hO11:w11.ownsRow 0 3 1 (.slice (some ⟨Y,0,none⟩) M M) M ((List.replicate M (0:Int)).map (.int .i64)):=by
    rw [List.map_replicate]
    exact hk11.row HO10.out (fun _ _ h=>h)
   have hK11:=HK10.out.trans hk11
   have hwG:w.heap.size≤G:=by rw [hG];exact HK10.out.size
   have HD11:=Hd hD11;have HO11:=Hd hO11;have HA11:=Hd hA11;have HK11:=Hd hK11
   clear hk11 hA11 hw11 hD11 hO11 hK11 hst HD10 HO10 HK10 HA1 HkA hfar hf0l hG hY
   go_loopw [85,8,9] (fun v85 _v8 _v9 wr=>∃ (j:Nat) (P:List Int),v85 = .int .i64 (j:Int)∧j≤n∧Hid (P.length=M)∧Hid (DecSt D wr (cnt0 ls) (firstsP (cntsL ls) 16) (fromP (cnt0 ls) 16) (.slice (some ⟨Y,0,none⟩) M M) (kd == 3))∧Hid (wr.ownsRow 0 3 1 (.slice (some ⟨Y,0,none⟩) M M) M (P.map (.int .i64)))∧Hid (Arr16 G wr (nextQ ls j))∧
    Hid (∀ i,i < j→0 < ls.getD i 0→P.getD (posAt ls i).toNat 0=(i:Int))∧Hid (Kept NoB w wr)) (fun v85 _ _ _=>n - (intOf v85).toNat)
   case atStart=>exact ⟨0,List.replicate M 0,rfl,by omega,Hd (by simp),HD11,HO11,HA11,Hd (fun i hi=>by omega),HK11⟩
   case round=>
    clear HD11 HO11 HA11 HK11
    obtain ⟨j,P,rfl,hj,HPl,HD,HO,HA,HPos,HK⟩:=hrel
    by_cases hlt2:(j:Int) < n
    ·obtain ⟨g,off,rfl,_,hc0⟩:=HR.out j (by have:=HN.out;omega)
     have hc:=HK.out.cell hc0
     have hb:=HS.out.getD j (by have:=HN.out;omega)
     obtain ⟨z,hz⟩:∃ z:Nat,(z:Int)=ls.getD j 0:=⟨(ls.getD j 0).toNat,by omega⟩
     rw [← hz] at hc hb
     have hjl:j < ls.length:=by have:=HN.out;omega
     by_cases hz0':z=0
     ·have e1:=nextQ_same ls j hjl (by omega)
      have hA:=HA.out
      rw [← e1] at hA
      have HA2:=Hd hA
      have HPos2:Hid (∀ i,i < j+1→0 < ls.getD i 0→P.getD (posAt ls i).toNat 0=(i:Int)):=Hd (fun i hi h0=>by
       by_cases e:i=j
       ·subst e;omega
       ·exact HPos.out i (by omega) h0)
      have g1:¬ 0 < (z:Int):=by omega
      clear e1 hA hz hc0
      go_wp2
      go_roundw
      case rel=>exact ⟨j+1,P,by go_num,by omega,HPl,HD,HO,HA2,HPos2,HK⟩
      case measure=>simp [intOf];omega
     ·have hz16:z < 16:=by omega
      have g1:0 < (z:Int):=by omega
      have hl3:ls.length≤320:=by rw [← HN.out];exact hl
      have e1:=nextQ_step ls j z hjl hz.symm (by omega) hz16
      obtain ⟨p1,p2,p3⟩:=pos_in ls hl3 j z hjl hz.symm (by omega) hz16
      have hsb:=sN_bd ls hl3 z
      have hy:(nextQ ls j).getD z 0=posAt ls j:=by
       rw [nextQ_get _ _ _ hz16,if_neg hz0']
       unfold posAt
       rw [← hz,Int.toNat_natCast]
      rw [← HM.out] at p3
      obtain ⟨p,hp⟩:∃ p:Nat,(p:Int)=posAt ls j:=⟨(posAt ls j).toNat,by omega⟩
      have hpM:p < M:=by omega
      rw [hy,← hp] at e1
      have d1:=HA.out.cell z hz16
      rw [hy,← hp] at d1
      have dP:=HD.out.atP
      have hup:∃ u,wr.cell? ⟨Y,p,none⟩=some u:=by
       rw [HO.out.cellAt p (by omega)]
       exact ⟨_,List.getElem?_eq_getElem (by simp [HPl.out];omega)⟩
      obtain ⟨u,hu⟩:=hup
      have fY:=HO.out.frozenAt p
      obtain ⟨s1,_⟩:=HO.out.stored p (.int .i64 (j:Int))
      rw [← List.map_set] at s1
      have hk1:Kept (fun k=>k=Y) wr (wr.setCell ⟨Y,p,none⟩ (.int .i64 (j:Int))):=Kept.setCell (S:=fun k=>k=Y) (p:=⟨Y,p,none⟩) (Kept.refl _ wr) (.inl rfl) _
      have hD1:=HD.out.kept hk1 (show ¬ D=Y by omega)
      have hA1:=HA.out.kept hk1 (show ¬ G=Y by omega)
      have hK1:Kept NoB w (wr.setCell ⟨Y,p,none⟩ (.int .i64 (j:Int))):=Kept.setCell (p:=⟨Y,p,none⟩) HK.out (.inr hwY) _
      have hkd:Kept NoB (wr.setCell ⟨Y,p,none⟩ (.int .i64 (j:Int))) (wr.setCell ⟨Y,p,none⟩ (.int .i64 (j:Int))).drew:=Kept.drew (Kept.refl _ _)
      have HO1:=Hd (hkd.row s1 (fun _ _ h=>h));have HD1:=Hd (hD1.kept hkd (fun h=>h));have HA1:=Hd (hA1.kept hkd (fun h=>h));have HK1:=Hd (hK1.trans hkd)
      have HPos2:Hid (∀ i,i < j+1→0 < ls.getD i 0→(P.set p (j:Int)).getD (posAt ls i).toNat 0=(i:Int)):=Hd (fun i hi h0=>by
       by_cases e:i=j
       ·subst e
        rw [← hp,Int.toNat_natCast,getD_set_eq _ _ _ (by rw [HPl.out];exact hpM)]
       ·have hne:=pos_ne ls hl3 HS.out i j (by omega) hjl h0 (by omega)
        have hb2:=HS.out.getD i (by omega)
        obtain ⟨zi,hzi⟩:∃ zi:Nat,ls.getD i 0=(zi:Int):=⟨(ls.getD i 0).toNat,by omega⟩
        have pp:=(pos_in ls hl3 i zi (by omega) hzi (by omega) (by omega)).1
        have hsb2:=sN_bd ls hl3 zi
        rw [getD_set_ne _ _ _ _ (by omega)]
        exact HPos.out i (by omega) h0)
      have HE1:=Hd e1
      have q1:(z:Int) < 16:=by omega
      have q2:(p:Int) < M:=by omega
      clear e1 hy hp hz hc0 s1 hk1 hD1 hA1 hK1 hkd p1 p2 p3 hsb
      go_upto_region 18 with fail
      go_region
      have f1:=obj_free HA1.out.obj z
      have d1':=HA1.out.cell z hz16
      have hpe:(nextQ ls j).getD z 0=(p:Int):=by
       have h1:=HA.out.cell z hz16
       rw [d1] at h1
       simpa using h1.symm
      rw [hpe] at d1'
      obtain ⟨wy,hwy⟩:∃ wy,wy=(wr.setCell ⟨Y,p,none⟩ (.int .i64 (j:Int))).drew:=⟨_,rfl⟩
      rw [← hwy] at HO1 HD1 HA1 HK1 f1 d1' ⊢
      have hk2:Kept (fun k=>k=G) wy (wy.setCell ⟨G,z,none⟩ (.int .i64 ((p:Int)+1))):=Kept.setCell (S:=fun k=>k=G) (p:=⟨G,z,none⟩) (Kept.refl _ wy) (.inl rfl) _
      have hA2:=HA1.out.put z ((p:Int)+1)
      rw [← HE1.out] at hA2
      have HA2:=Hd hA2;have HD2:=Hd (HD1.out.kept hk2 (show ¬ D=G by omega));have HO2:=Hd (hk2.row HO1.out (fun k e=>by simp [Value.ownBlock] at e;omega))
      have HK2:Hid (Kept NoB w (wy.setCell ⟨G,z,none⟩ (.int .i64 ((p:Int)+1)))):=Hd (Kept.setCell (p:=⟨G,z,none⟩) HK1.out (.inr hwG) _)
      clear hwy hk2 hA2 d1 dP hu fY hpe HO1 HD1 HA1 HK1
      go_wp2
      go_roundw
      case rel=>exact ⟨j+1,P.set p (j:Int),by go_num,by omega,Hd (by rw [List.length_set];exact HPl.out),HD2,HO2,HA2,HPos2,HK2⟩
      case measure=>simp [intOf];omega
    ·have hjn:j=n:=by omega
     subst hjn
     have hKe:(kd == 3)=(kindS ls == 3):=by rw [HKe.out]
     have hdec:DecNew ls D w.heap.size wr:=⟨Y,M,P,hwY,hwD,by rw [HPl.out,← hKe];exact HD.out,(by
      intro t ht
      rw [HO.out.cellAt t (by have:=HPl.out;omega)];simp [List.getD,ht]),by rw [HPl.out];exact HM.out,fun i hi h0=>HPos.out i (by have:=HN.out;omega) h0⟩
     have HDec:=Hd hdec
     clear hKe hdec
     go_wp2
     go_ret2
     exact ⟨D,rfl,HDec.out,HK.out⟩
theorem lowest_any (n:Int)(w:World)(h0:0≤n)(h1:n≤32):
  Calls Tryz.prog 113 #[.int .i64 n] w fun e w'=>e = .returned (.int .u64 (IntKind.u64.wrap (IntKind.u64.wrap (2 ^ n.toNat) - 1)))∧w=w':=by
 go_enter Tryz.func113,Tryz.ntmps113
 go_wp2
 go_ret
 exact ⟨rfl,rfl⟩
def Rdr (w:World)(R:Nat)(ao:Option Addr)(cap:Nat)(bs:List Int)(at_:Nat):Prop:=
 w.heap[R]?=some (.cells #[.slice ao bs.length cap,.int .i64 at_] 192 (0,0))∧w.ownsRow 0 5 1 (.slice ao bs.length cap) bs.length (bs.map (.int .u8))∧
 bs.length≤1000000000000000∧at_≤8*bs.length∧∀ b∈bs,0≤b∧b < 256
theorem left_any (w:World)(R:Nat)(ao:Option Addr)(cap:Nat)(bs:List Int)(at_:Nat)(h:Rdr w R ao cap bs at_):
  Calls Tryz.prog 125 #[.pointer (some ⟨R,0,none⟩)] w fun e w'=>e = .returned (.int .i64 (8*bs.length - at_))∧Kept NoB w w':=by
 obtain ⟨ho,hr,hl,ha,hb⟩:=h
 have c0:w.cell? ⟨R,0,none⟩=some (.slice ao bs.length cap):=by simpa using obj_cell ho 0
 have c1:w.cell? ⟨R,1,none⟩=some (.int .i64 at_):=by simpa using obj_cell ho 1
 clear ho hr hb
 go_enter Tryz.func125,Tryz.ntmps125
 go_wp2
 go_quiet (fail)
 go_wp2
 go_ret
 exact ⟨rfl,(Kept.refl _ _).drewN _⟩
def min3 (n L:Int):Int:=if L < (if 32 < (if n < 0 then 0 else n) then 32 else if n < 0 then 0 else n) then L else if 32 < (if n < 0 then 0 else n) then 32 else if n < 0 then 0 else n
theorem min3_bd (n L:Int)(k:Nat)(hk:min3 n L=k)(hL:0≤L):k≤32∧(k:Int)≤L∧(k:Int)≤max n 0:=by unfold min3 at hk;omega
theorem peek_any (w:World)(R:Nat)(ao:Option Addr)(cap:Nat)(bs:List Int)(at_:Nat)(n:Int)(h:Rdr w R ao cap bs at_)(k:Nat)(hk:min3 n (8*bs.length - at_)=k):
  Calls Tryz.prog 126 #[.pointer (some ⟨R,0,none⟩),.int .i64 n] w fun e w'=>e = .returned (.tuple #[.int .u32 (bitsAt bs at_ k:Nat),.int .i64 k])∧Kept NoB w w':=by
 have hh:=h.2.2.2.1
 have hkk:=min3_bd _ _ _ hk (by omega)
 have HK:=Hd hk;clear hk
 have H:=Hd h;clear h
 go_enter Tryz.func126,Tryz.ntmps126
 go_upto_region 1 with fail
 go_cut [6] (fun s wx=>s = .int .i64 k∧Kept NoB w wx)
 case first=>
  go_wp2_with (go_at_call 125;refine (left_any _ _ _ _ _ _ H.out).mono ?_;rintro e w' ⟨rfl,hk1⟩)
  all_goals go_meet
  all_goals exact ⟨by have hq:=HK.out;congr 1;unfold min3 at hq;omega,hk1⟩
 case rest=>
  obtain ⟨rfl,hk1⟩:=hcut
  by_cases h0:k=0
  ·subst h0
   go_wp2
   go_ret2
   exact ⟨by simp [bitsAt],hk1⟩
  ·have hz:((k:Int) == 0)=false:=by simp;omega
   obtain ⟨ho,hr,hl,ha,hb⟩:=H.out
   have ho:=hk1.obj ho (fun h=>h)
   have hr:=hk1.row hr (fun _ _ h=>h)
   have c0:wc.cell? ⟨R,0,none⟩=some (.slice ao bs.length cap):=by simpa using obj_cell ho 0
   have c1:wc.cell? ⟨R,1,none⟩=some (.int .i64 at_):=by simpa using obj_cell ho 1
   have HB:=Hd hb;clear hb
   clear ho
   go_upto_region 4 with fail
   go_cut [7,8] (fun s t wx=>s = .int .i64 (at_ / 8:Nat)∧t = .int .i64 (at_ % 8:Nat)∧∃ n,wx=wc.drewN n)
   case first=>
    have q1:IntKind.i64.wrap ((at_:Int) / 8)=(at_:Int) / 8:=IntWalk.i64_in _ (by omega)
    have q2:wrap64 ((at_:Int) / 8)=(at_:Int) / 8:=IntWalk.wrap64_in _ (by omega)
    go_quiet (fail)
    go_wp2
    go_meet
    exact ⟨by go_num,by go_num,_,rfl⟩
   case rest=>
    obtain ⟨rfl,rfl,nd,hw⟩:=hcut
    obtain ⟨f,hf⟩:∃ f,f=at_ / 8:=⟨_,rfl⟩
    obtain ⟨t,ht⟩:∃ t,t=at_ % 8:=⟨_,rfl⟩
    rw [← hf,← ht]
    have hft:at_=8*f+t:=by omega
    have ht8:t < 8:=by omega
    have hlen:8*f+t+k≤8*bs.length:=by omega
    clear hf ht
    subst hft
    subst hw
    have hrd:(wc.drewN nd).ownsRow 0 5 1 (.slice ao bs.length cap) bs.length (bs.map (.int .u8)):=hr
    obtain ⟨wd,hwd⟩:∃ wd,wd=wc.drewN nd:=⟨_,rfl⟩
    have c0:wd.cell? ⟨R,0,none⟩=some (.slice ao bs.length cap):=by rw [hwd];exact c0
    have hk1:Kept NoB w wd:=by rw [hwd];exact hk1.drewN _
    rw [← hwd] at hrd ⊢
    clear hwd
    obtain ⟨g,rfl⟩:∃ g,ao=some ⟨g,0,none⟩:=by
     rcases hrd.2 with ⟨_,hz⟩ | ⟨g,c,cur,hv,_⟩
     ·omega
     ·simp at hv;exact ⟨g,hv.1⟩
    have hcells:∀ i,i < bs.length→wd.cell? ⟨g,i,none⟩=some (.int .u8 (bs.getD i 0)):=fun i hi=>by
     rw [hrd.cellAt i (by omega)];simp [List.getD,hi]
    have HC:=Hd hcells;clear hcells hrd hr
    have hlm:8*bs.length≤8000000000000000:=by omega
    go_wp2
    go_loop [9,33] (fun v i=>∃ j:Nat,8*j < t+k+8∧i = .int .i64 j∧v = .int .u64 (num ((bs.drop f).take j):Nat)) (fun _ i=>(100 - intOf i).toNat)
    case atStart=>exact ⟨0,by omega,rfl,by simp [num]⟩
    case round=>
     obtain ⟨j,hj,rfl,rfl⟩:=hrel
     by_cases hlt:8*j < t+k
     ·have hc:=HC.out (f+j) (by omega)
      have hbd:=HB.out
      have hg:=AllB.getD hbd (f+j)
      generalize hz:bs.getD (f+j) 0=z at hc hg
      have HZ:=Hd hz;clear hz
      clear hbd
      go_wp2
      go_round
      case rel=>
       exact ⟨j+1,by omega,by go_num,by rw [or_step bs HB.out f j (by omega) (by omega) z HZ.out]⟩
      case measure=>simp [intOf];omega
     ·have hnl:¬ ((j:Int) < ((t:Int)+k+7) / 8):=by omega
      go_wp2
      have hj2:t+k≤8*j:=by omega
      have q1:=wrap_pow k (by omega)
      have hlt2:num ((bs.drop f).take j) < 18446744073709551616:=num_take_lt _ (AllB.drop HB.out f) j (by omega)
      have HL:=Hd hlt2;clear hlt2
      go_quiet ((go_at_call 113;exact Calls.quiet_of_same ((lowest_any _ _ (by omega) (by omega)).mono fun _ _ h=>⟨h.1,h.2.symm⟩)))
      go_wp2
      go_ret2
      refine ⟨?_,hk1.drewN _⟩
      rw [and_mask _ t k HL.out (by omega),bitsAt_window bs HB.out f t k j hj2]
      rfl
theorem Rdr.moved {w w':World}{R:Nat}{ao:Option Addr}{cap:Nat}{bs:List Int}{p q:Nat}(h:Rdr w R ao cap bs p)(hk:Kept NoB w w')(hq:q≤8*bs.length):
  Rdr (w'.setCell ⟨R,1,none⟩ (.int .i64 q)) R ao cap bs q:=by
 obtain ⟨ho,hr,hl,ha,hb⟩:=h
 have ho':=hk.obj ho (fun h=>h)
 have hr':=hk.row hr (fun _ _ h=>h)
 have hne:=row_ne hr' ho' (by decide)
 refine ⟨?_,?_,hl,hq,hb⟩
 ·simpa using obj_set ho' 1 (.int .i64 q)
 ·exact ((Kept.refl (OneB R) w').setCell (p:=⟨R,1,none⟩) (.inl rfl) _).row hr' (fun k hk' e=>hne k hk' e)
theorem Rdr.kept {S:Nat→Prop}{w w':World}{R:Nat}{ao:Option Addr}{cap:Nat}{bs:List Int}{p:Nat}(h:Rdr w R ao cap bs p)(hk:Kept S w w')(h1:¬ S R)(h2:∀ k,(Value.slice ao bs.length cap).ownBlock=some k→¬ S k):Rdr w' R ao cap bs p:=
 ⟨hk.obj h.1 h1,hk.row h.2.1 h2,h.2.2⟩
theorem Rdr.keptNo {w w':World}{R:Nat}{ao:Option Addr}{cap:Nat}{bs:List Int}{p:Nat}(h:Rdr w R ao cap bs p)(hk:Kept NoB w w'):Rdr w' R ao cap bs p:=
 h.kept hk (fun h=>h) (fun _ _ h=>h)
theorem take_yes (w:World)(R:Nat)(ao:Option Addr)(cap:Nat)(bs:List Int)(p:Nat)(n:Nat)(h:Rdr w R ao cap bs p)(hn:n≤32)(hle:p+n≤8*bs.length):
  Calls Tryz.prog 96 #[.pointer (some ⟨R,0,none⟩),.int .i64 n] w fun e w'=>e = .returned (.tuple #[.int .u32 (bitsAt bs p n:Nat),.bool true])∧Rdr w' R ao cap bs (p+n)∧Kept (OneB R) w w':=by
 have hh:=h.2.2.2.1
 have hm:min3 n (8*bs.length - p)=n:=by unfold min3;omega
 have HM:=Hd hm;clear hm
 have hlm:bs.length≤1000000000000000:=h.2.2.1
 have H:=Hd h;clear h
 go_enter Tryz.func96,Tryz.ntmps96
 go_wp2_with (go_at_call 125;refine (left_any _ _ _ _ _ _ H.out).mono ?_;rintro e w1 ⟨rfl,hk1⟩)
 refine (peek_any _ _ _ _ _ _ _ (H.out.keptNo hk1) n HM.out).mono ?_
 rintro e w2 ⟨rfl,hk2⟩
 have hk:=hk1.trans hk2
 have hr2:=H.out.keptNo hk
 have c1:w2.cell? ⟨R,1,none⟩=some (.int .i64 p):=by simpa using obj_cell hr2.1 1
 have f1:w2.frozen? ⟨R,1,none⟩=false:=obj_free hr2.1 1
 have HR:=Hd hr2;clear hr2
 go_wp2
 go_ret2
 refine ⟨rfl,?_,?_⟩
 ·exact HR.out.moved (Kept.refl _ _) hle
 ·exact Kept.setCell (S:=OneB R) (p:=⟨R,1,none⟩) (hk.mono (fun _ _ h=>h.elim)) (.inl rfl) _
theorem take_no (w:World)(R:Nat)(ao:Option Addr)(cap:Nat)(bs:List Int)(p:Nat)(n:Int)(h:Rdr w R ao cap bs p)(hn:n < 0∨32 < n∨8*bs.length < p+n):
  Calls Tryz.prog 96 #[.pointer (some ⟨R,0,none⟩),.int .i64 n] w fun e w'=>e = .returned (.tuple #[.int .u32 0,.bool false])∧Kept NoB w w':=by
 have hh:=h.2.2.2.1
 have hlm:bs.length≤1000000000000000:=h.2.2.1
 have H:=Hd h;clear h
 by_cases c1:n < 0
 ·clear hn
  go_enter Tryz.func96,Tryz.ntmps96
  go_wp2
  go_ret2
  exact ⟨rfl,Kept.refl _ _⟩
 ·by_cases c2:32 < n
  ·clear hn
   go_enter Tryz.func96,Tryz.ntmps96
   go_wp2
   go_ret2
   exact ⟨rfl,Kept.refl _ _⟩
  ·have c3:8*(bs.length:Int) - p < n:=by omega
   clear hn
   go_enter Tryz.func96,Tryz.ntmps96
   go_wp2_with (go_at_call 125;refine (left_any _ _ _ _ _ _ H.out).mono ?_;rintro e w1 ⟨rfl,hk1⟩)
   go_ret2
   exact ⟨rfl,hk1⟩
def up8 (p:Nat):Nat:=(p+7) / 8*8
theorem ralign_any (w:World)(R:Nat)(ao:Option Addr)(cap:Nat)(bs:List Int)(p:Nat)(h:Rdr w R ao cap bs p):
  Calls Tryz.prog 152 #[.pointer (some ⟨R,0,none⟩)] w fun e w'=>e = .returned (.tuple #[])∧Rdr w' R ao cap bs (up8 p)∧Kept (OneB R) w w':=by
 have hh:=h.2.2.2.1
 have hlm:bs.length≤1000000000000000:=h.2.2.1
 have c1:w.cell? ⟨R,1,none⟩=some (.int .i64 p):=by simpa using obj_cell h.1 1
 have f1:w.frozen? ⟨R,1,none⟩=false:=obj_free h.1 1
 have HR:=Hd h;clear h
 go_enter Tryz.func152,Tryz.ntmps152
 go_wp2
 go_end0
 rw [show (((p:Int)+7) / 8*8)=((up8 p:Nat):Int) from by unfold up8;omega]
 exact ⟨rfl,HR.out.moved (Kept.refl _ _) (by unfold up8;omega),Kept.setCell (S:=OneB R) (p:=⟨R,1,none⟩) (Kept.refl _ _) (.inl rfl) _⟩
end Go.Proofs.YtfmjfgmbjdhogaaGreatDoor
