import Derived.Test.YtfmjfgmbjdhogaaGreatDoorMb33
import Derived.Lib.AppendZerosOnto
set_option linter.unusedVariables false
set_option linter.unusedSimpArgs false
set_option maxRecDepth 20000
set_option maxHeartbeats 8000000
namespace Go.Proofs.YtfmjfgmbjdhogaaGreatDoor
open Go.RowKit
theorem tkC_app (a b:List Tk):tkC (a++b)=tkC a++tkC b:=by simp [tkC]
theorem tkC_cons (t:Tk)(r:List Tk):tkC (t :: r) = .int .i64 t.l :: .int .i64 t.d :: .int .u8 t.c :: tkC r:=by simp [tkC]
def oneT (b:UInt8):Tk:=⟨0,0,(b.toNat:Int)⟩
def fillT (L:List UInt8)(j:Nat):List Tk:=(L.take j).map oneT++List.replicate (L.length - j) ⟨0,0,0⟩
theorem fillT_len (L:List UInt8)(j:Nat)(h:j≤L.length):(fillT L j).length=L.length:=by simp [fillT];omega
theorem fillT_set (L:List UInt8)(j:Nat)(h:j < L.length):(tkC (fillT L j)).set (j*3+2) (.int .u8 ((L.getD j 0).toNat:Int))=tkC (fillT L (j+1)):=by
 have e:L.getD j 0=L[j]:=by simp [List.getD,h]
 have ht:(L.take (j+1)).map oneT=(L.take j).map oneT++[oneT L[j]]:=by rw [List.take_succ_eq_append_getElem h,List.map_append];rfl
 have hr:List.replicate (L.length - j) (⟨0,0,0⟩:Tk)=⟨0,0,0⟩ :: List.replicate (L.length - (j+1)) ⟨0,0,0⟩:=by
  rw [show L.length - j=(L.length - (j+1))+1 by omega,List.replicate_succ]
 have hl:(tkC ((L.take j).map oneT)).length=j*3:=by rw [tkC_len,List.length_map,List.length_take];omega
 rw [fillT,fillT,ht,hr,e,tkC_app,tkC_app,tkC_app,tkC_cons,List.set_append_right _ _ (by omega),hl,show j*3+2 - j*3=2 by omega,List.append_assoc]
 rfl
theorem fillT_full (L:List UInt8):fillT L L.length=L.map oneT:=by simp [fillT]
theorem made_tk (n:Nat):(madeCells #[.int .i64 0,.int .i64 0,.int .u8 0] (n*3)).toList=tkC (List.replicate n ⟨0,0,0⟩):=by
 apply List.ext_getElem?
 intro j
 by_cases hj:j < n*3
 ·obtain ⟨i,r,rfl,hr⟩:∃ i r,j=i*3+r∧r < 3:=⟨j / 3,j % 3,by omega,by omega⟩
  have hi:i < n:=by omega
  obtain ⟨h0,h1,h2⟩:=tkC_at (List.replicate n ⟨0,0,0⟩) i (by simpa using hi)
  simp only [List.getElem_replicate] at h0 h1 h2
  have hm:(i*3+r) % 3=r:=by omega
  have hl:(madeCells #[.int .i64 0,.int .i64 0,.int .u8 0] (n*3)).toList[i*3+r]?=some ((#[Value.int .i64 0,.int .i64 0,.int .u8 0]:Array Value)[r]!):=by
   simp [madeCells,hj,hm]
  rw [hl]
  rcases (show r=0∨r=1∨r=2 by omega) with rfl | rfl | rfl
  ·rw [Nat.add_zero,h0];rfl
  ·rw [h1];rfl
  ·rw [h2];rfl
 ·rw [List.getElem?_eq_none (by simp [madeCells];omega),List.getElem?_eq_none (by rw [tkC_len,List.length_replicate];omega)]
theorem rest_low (lv:Int)(L:List UInt8)(h:lv < 1):∀ k i,L.length - i≤k→restT lv L i=(L.drop i).map oneT:=by
 intro k
 induction k with
 | zero=>intro i hk;rw [rest_end lv L i (by omega),List.drop_eq_nil_of_le (by omega)];rfl
 | succ k ih=>
  intro i hk
  by_cases hi:i < L.length
  ·have e:(lazyN lv L i).1=0:=by rw [lazyN,if_pos h]
   rw [rest_step lv L i hi,step_lit e,List.drop_eq_getElem_cons hi,List.map_cons]
   show litT L i :: restT lv L (i+1)=_
   rw [ih (i+1) (by omega)]
   have e2:L.getD i 0=L[i]:=by simp [List.getD,hi]
   rw [litT,e2]
   rfl
  ·rw [rest_end lv L i (by omega),List.drop_eq_nil_of_le (by omega)];rfl
theorem single_any (ao:Option Addr)(n c:Nat)(L:List UInt8)(w:World)(hr:RowB w w.heap.size ao L)(hn:n=L.length)(hn3:n≤32768):
  Calls Tryz.prog 85 #[.slice ao n c] w fun e w'=>∃ a2 c2,e = .returned (.slice a2 n c2)∧TkSt w.heap.size w' a2 n c2 (L.map oneT)∧Kept NoB w w':=by
 obtain ⟨i0,hi,hz0,hz1,hz2⟩:=info_parts infoTk
 have HR:=Hd hr;have HN:=Hd hn
 clear hr hn
 go_enter Tryz.func85,Tryz.ntmps85
 go_wp2_with (at_make;refine wpList_make_full _ rfl _ _ _ rfl 0 101 i0 (.agg #[.int .i64 0,.int .i64 0,.int .u8 0]) 3 Tryz.underlying98 hi hz0 hz1 .i64 .i64 _ _ n rfl rfl rfl rfl (by rw [hz2];omega) (by unfold maxLen;omega) (Nat.zero_le _) ?_)
 intro w2 hown hgrow
 obtain ⟨G,hG⟩:∃ G,G=w.heap.size:=⟨_,rfl⟩
 rw [← hG] at hown ⊢
 have hown0:w2.ownsRow 0 101 3 (.slice (some ⟨G,0,none⟩) n n) n (tkC (fillT L 0)):=by
  rw [fillT,List.take_zero,List.map_nil,List.nil_append,Nat.sub_zero,← HN.out,← made_tk]
  exact hown
 have HO0:=Hd hown0;have HK0:=Hd ((Kept.refl NoB w).grown hgrow (fun _ _ e=>by cases e));have HG:=Hd hG
 clear hown hgrow hown0 hG
 go_wp2
 go_loopw [11,4,5] (fun v11 v4 v5 wr=>∃ j:Nat,v11 = .int .i64 (j:Int)∧j≤n∧Hid (wr.ownsRow 0 101 3 (.slice (some ⟨G,0,none⟩) n n) n (tkC (fillT L j)))∧Hid (Kept NoB w wr)) (fun v11 _ _ _=>n - (intOf v11).toNat)
 case atStart=>exact ⟨0,rfl,by omega,HO0,HK0⟩
 case round=>
  obtain ⟨j,rfl,hj,HO,HK⟩:=hrel
  by_cases hlt:(j:Int) < n
  ·obtain ⟨g,o,rfl,hg,hrd⟩:=HR.out (by have:=HN.out;omega)
   have hc:=HK.out.cell (hrd j (by have:=HN.out;omega))
   rw [Nat.zero_add] at hc
   have hst:(wr.setCell ⟨G,j*3+2,none⟩ (.int .u8 ((L.getD j 0).toNat:Int))).ownsRow 0 101 3 (.slice (some ⟨G,0,none⟩) n n) n (tkC (fillT L (j+1))):=by
    rw [← fillT_set L j (by have:=HN.out;omega)]
    exact (HO.out.stored (j*3+2) (.int .u8 ((L.getD j 0).toNat:Int))).1
   generalize ((L.getD j 0).toNat:Int)=y at hc hst
   have hkn:Kept NoB w (wr.setCell ⟨G,j*3+2,none⟩ (.int .u8 y)):=Kept.setCell (p:=⟨G,j*3+2,none⟩) HK.out (.inr (show w.heap.size≤G by rw [HG.out];exact Nat.le_refl _)) _
   have hlr:j*3+2 < (tkC (fillT L j)).length:=by rw [tkC_len,fillT_len L j (by have:=HN.out;omega)];have:=HN.out;omega
   have hcz:∃ u,wr.cell? ⟨G,j*3+2,none⟩=some u:=⟨_,by rw [HO.out.cellAt (j*3+2) (by omega),List.getElem?_eq_getElem hlr]⟩
   obtain ⟨u,hcz⟩:=hcz
   have hfz:wr.frozen? ⟨G,j*3+2,none⟩=false:=HO.out.frozenAt _
   have HSt:=Hd hst;have HKn:=Hd hkn
   clear hst hkn hlr hrd hg
   go_wp2
   go_roundw
   case rel=>exact ⟨j+1,by go_num,by omega,HSt,HKn⟩
   case measure=>simp [intOf];omega
  ·have hjn:j=n:=by omega
   have HD:Hid (TkSt w.heap.size wr (some ⟨G,0,none⟩) n n (L.map oneT)):=Hd ⟨by rw [List.length_map];exact HN.out,by have:=HO.out;rw [hjn,HN.out,fillT_full] at this;rw [HN.out];exact this,fun k hk=>by
    have e:(Value.slice (some ⟨G,0,none⟩) n n).ownBlock=some G:=rfl
    rw [e] at hk
    cases hk
    rw [HG.out]
    exact Nat.le_refl _⟩
   clear HO hjn
   go_wp2
   go_ret
   exact ⟨_,_,rfl,HD.out,HK.out⟩
/-- Tokens at any level. -/
theorem tokens_all (ao:Option Addr)(n c:Nat)(lv:Int)(L:List UInt8)(w:World)(hr:RowB w w.heap.size ao L)(hn:n=L.length)(hn3:n≤32768)(hc:n≤c)(hcm:c≤9223372036854775807)(hT:DeB w)(hlv : -9223372036854775808≤lv∧lv≤9223372036854775807):
  Calls Tryz.prog 51 #[.slice ao n c,.int .i64 lv] w fun e w'=>∃ a2 c2,e = .returned (.slice a2 (restT lv L 0).length c2)∧TkSt w.heap.size w' a2 (restT lv L 0).length c2 (restT lv L 0)∧Kept NoB w w':=by
 by_cases h1:1≤lv
 ·exact tokens_any ao n c lv L w hr hn hn3 hc hcm hT ⟨h1,hlv.2⟩
 ·have hlt:lv < 1:=by omega
  have e:restT lv L 0=L.map oneT:=by rw [rest_low lv L hlt L.length 0 (by omega),List.drop_zero]
  rw [e,List.length_map,← hn]
  have HS:=Hd (single_any ao n c L w hr hn hn3)
  clear hr hn hn3 hc hcm hT e h1
  go_enter Tryz.func51,Tryz.ntmps51
  go_wp2_with fail
  with_reducible refine HS.out.mono ?_
  rintro e w2 ⟨a2,c2,rfl,ht,hk⟩
  have HT:=Hd ht;have HK:=Hd hk
  clear ht hk
  go_wp2
  go_ret
  exact ⟨_,_,rfl,HT.out,HK.out⟩
theorem nb_getD (L:List UInt8)(i:Nat):(nb L).getD i 0=((L.getD i 0).toNat:Int):=by
 by_cases h:i < L.length
 ·simp [nb,List.getD,h]
 ·simp [nb,List.getD,List.getElem?_eq_none (Nat.le_of_not_lt h)]
theorem nb_take_succ (L:List UInt8)(i:Nat)(h:i < L.length):(nb L).take (i+1)=(nb L).take i++[((L.getD i 0).toNat:Int)]:=by
 have hn:i < (nb L).length:=by rw [nb_len];exact h
 have e:(nb L)[i]=((L.getD i 0).toNat:Int):=by
  have:=nb_getD L i
  simpa [List.getD,hn] using this
 rw [List.take_succ_eq_append_getElem hn,e]
theorem copy_cand (L:List UInt8)(p D m:Nat)(hD:1≤D)(hp:D≤p)(h:∀ j,j < m→L.getD (p - D+j) 0=L.getD (p+j) 0)(hm:p+m≤L.length):copyN D m ((nb L).take p)=(nb L).take (p+m):=by
 induction m with
 | zero=>rfl
 | succ m ih=>
  have ih:=ih (fun j hj=>h j (by omega)) (by omega)
  have hl:((nb L).take (p+m)).length=p+m:=by rw [List.length_take,nb_len];omega
  rw [copyN,ih,hl,show p+(m+1)=p+m+1 by omega,nb_take_succ L (p+m) (by omega)]
  congr 1
  have e1:((nb L).take (p+m)).getD (p+m - D) 0=(nb L).getD (p+m - D) 0:=by
   simp [List.getD,List.getElem?_take,show p+m - D < p+m by omega]
  rw [e1,nb_getD,show p+m - D=p - D+m by omega,h m (by omega)]
theorem step_exp (lv:Int)(L:List UInt8)(p:Nat)(hp:p < L.length)(hL:L.length≤32768):
  (stepT lv L p).1.wf∧(stepT lv L p).1.no ((nb L).take p).length (L.length:Int)=0∧(stepT lv L p).1.put ((nb L).take p)=(nb L).take (stepT lv L p).2:=by
 have hl:((nb L).take p).length=p:=by rw [List.length_take,nb_len];omega
 rw [hl]
 by_cases hz:(lazyN lv L p).1=0
 ·rw [step_lit hz]
  have hb:=(L.getD p 0).toNat_lt
  refine ⟨?_,?_,?_⟩
  ·unfold Tk.wf litT
   simp only
   omega
  ·unfold Tk.no Tk.ok litT
   simp only
   rw [if_pos trivial,if_neg (by simp),if_neg (by omega),if_neg (by rw [if_pos (by decide)];omega)]
  ·unfold Tk.put litT
   simp only
   rw [if_pos trivial,nb_take_succ L p hp]
 ·rw [step_tok hz]
  have hlz:lazyN lv L p=longN L p:=by
   unfold lazyN at hz ⊢
   split at hz
   ·exact absurd rfl hz
   ·split at hz
    ·exact absurd rfl hz
    ·rename_i h1 h2
     rw [if_neg h1,if_neg h2]
  rw [hlz] at hz ⊢
  obtain ⟨n,hn⟩:∃ n,n=(longN L p).1:=⟨_,rfl⟩
  obtain ⟨d,hd⟩:∃ d,d=(longN L p).2:=⟨_,rfl⟩
  have hok:=long_ok L p
  rw [← hn,← hd] at hok
  rw [← hn] at hz ⊢
  rw [← hd]
  rcases hok with ⟨h1,_⟩ | ⟨h1,h2,h3,h4,h5,_⟩
  ·exact absurd h1 hz
  ·have h2':=h2
   rw [mostN] at h2'
   have hc:=(shr_iff L (mostN L p) (p - d) p n h2).1 (by rw [← h5];exact Nat.le_refl _)
   refine ⟨?_,?_,?_⟩
   ·unfold Tk.wf
    simp only
    omega
   ·unfold Tk.no Tk.ok
    simp only
    rw [if_neg (show ¬ ((n:Int)=0) by omega),if_neg (by simp;omega),if_neg (by omega),if_neg (by omega)]
   ·unfold Tk.put
    simp only
    rw [if_neg (by omega),Int.toNat_natCast,Int.toNat_natCast]
    exact copy_cand L p d n h3 (by omega) hc (by omega)
theorem exp_rest (lv:Int)(L:List UInt8)(hL:L.length≤32768):∀ k p i,L.length - p≤k→p≤L.length→AllT (restT lv L p)∧expF (L.length:Int) (restT lv L p) ((nb L).take p) i=(nb L,i+(restT lv L p).length,0):=by
 intro k
 induction k with
 | zero=>
  intro p i hk hp
  rw [rest_end lv L p (by omega),show p=L.length by omega]
  refine ⟨(fun t ht=>by cases ht),?_⟩
  rw [expF,List.take_of_length_le (by rw [nb_len];exact Nat.le_refl _)]
  rfl
 | succ k ih=>
  intro p i hk hp
  by_cases hlt:p < L.length
  ·obtain ⟨h1,h2,h3⟩:=step_exp lv L p hlt hL
   have h4:=step_lt lv L p
   obtain ⟨g1,g2⟩:=ih (stepT lv L p).2 (i+1) (by omega) (step_le lv L p hlt)
   rw [rest_step lv L p hlt]
   refine ⟨?_,?_⟩
   ·intro t ht
    rcases List.mem_cons.1 ht with h | h
    ·rw [h];exact h1
    ·exact g1 t h
   ·rw [expF,if_pos h2,h3,g2,List.length_cons]
    congr 2
    omega
  ·rw [rest_end lv L p (by omega),show p=L.length by omega]
   refine ⟨(fun t ht=>by cases ht),?_⟩
   rw [expF,List.take_of_length_le (by rw [nb_len];exact Nat.le_refl _)]
   rfl
theorem expF_good {most:Int}:∀ (ts:List Tk) (bs x:List Int) (i n:Nat),expF most ts bs i=(x,n,0)→good most ts bs∧putAll ts bs=x
 | [],bs,x,i,n,h=>by
  unfold expF at h
  simp only [Prod.mk.injEq] at h
  exact ⟨trivial,h.1⟩
 | t :: r,bs,x,i,n,h=>by
  unfold expF at h
  by_cases hn:t.no bs.length most=0
  ·rw [if_pos hn] at h
   obtain ⟨h1,h2⟩:=expF_good r (t.put bs) x (i+1) n h
   exact ⟨⟨hn,h1⟩,h2⟩
  ·rw [if_neg hn] at h
   simp only [Prod.mk.injEq] at h
   exact absurd h.2.2 hn
theorem good_allOk {most:Int}:∀ (ts:List Tk) (bs:List Int),good most ts bs→allOkB ts=true
 | [],_,_=>rfl
 | t :: r,bs,h=>by
  have h1:=good_allOk r _ h.2
  have h2:t.ok=true:=by
   have h3:=h.1
   unfold Tk.no at h3
   cases hok:t.ok with
   | true=>rfl
   | false=>rw [hok] at h3;simp at h3
  unfold allOkB at h1 ⊢
  rw [List.all_cons,h2,h1];rfl
theorem rest_facts (lv:Int)(L:List UInt8)(hL:L.length≤32768):AllT (restT lv L 0)∧good (L.length:Int) (restT lv L 0) []∧putAll (restT lv L 0) []=nb L∧allOkB (restT lv L 0)=true:=by
 obtain ⟨h1,h2⟩:=exp_rest lv L hL L.length 0 0 (by omega) (by omega)
 rw [List.take_zero] at h2
 obtain ⟨h3,h4⟩:=expF_good _ _ _ _ _ h2
 exact ⟨h1,h3,h4,good_allOk _ _ h3⟩
theorem putAll_mono (ts:List Tk)(j:Nat):(putAll (ts.take j) []).length≤(putAll ts []).length:=(putAll_take_pre ts j []).length_le
theorem wpList_tk2 {ops:Array Oper}{rest:List Oper}{o:Oper}{act:Act}{w:World}{Q:Exit→Act→World→Prop}(hgd:o.guard=none)(s x:Operand)
  (ho:o.op = .call { callee := .builtin .append,args:=#[s,x],argTypes:=#[98,98] })
  {lo:Nat} {a1:Option Addr} {l1 c1:Nat} {ts:List Tk} (hS:TkSt lo w a1 l1 c1 ts) (hlo:lo≤w.heap.size) (hs:act.eval s = .slice a1 l1 c1)
  (g cx:Nat) (t:Tk) (hx:act.eval x = .slice (some ⟨g,0,none⟩) 1 cx) (h0:w.cell? ⟨g,0,none⟩=some (.int .i64 t.l)) (h1:w.cell? ⟨g,1,none⟩=some (.int .i64 t.d)) (h2':w.cell? ⟨g,2,none⟩=some (.int .u8 t.c)) (hn:l1≤1000000)
  (h:∀ a2 c2 w',TkSt lo w' a2 (l1+1) c2 (ts++[t])→Kept (OwnB (.slice a1 l1 c1)) w w'→wpList Tryz.prog ops Q rest (act.put o.dst (.slice a2 (l1+1) c2)) w'):wpList Tryz.prog ops Q (o :: rest) act w:=by
 obtain ⟨i0,hi,hz0,hz1,hz2⟩:=info_parts infoTk
 refine wpList_app w hgd s x 98 ho 101 i0 (.agg #[.int .i64 0,.int .i64 0,.int .u8 0]) 3 24 Tryz.underlying98 hi hz0 hz1 hz2 rfl (by decide) _ l1 (tkC ts) hs hS.own ⟨g,0,none⟩ 1 cx [.int .i64 t.l,.int .i64 t.d,.int .u8 t.c] hx rfl ?_ ?_ (by unfold maxLen;omega) (by omega) ?_
 ·intro j u hu
  rw [addr_add,Nat.zero_add]
  match j with
  | 0=>simp at hu;subst hu;exact h0
  | 1=>simp at hu;subst hu;exact h1
  | 2=>simp at hu;subst hu;exact h2'
  | j+3=>simp at hu
 ·intro u hu
  simp at hu
  rcases hu with rfl | rfl | rfl <;> rfl
 intro v' w' h2 h3 h4
 obtain ⟨a2,c2,rfl⟩:=slice_shape h2
 refine h _ _ _ ⟨by rw [List.length_append,← hS.len];rfl,by simpa [tkC] using h2,?_⟩ ((Kept.refl _ w).grown h3 (fun k _ e=>e))
 intro k hk
 rcases h4 k hk with h | h
 ·exact hS.fresh k h
 ·omega
theorem packAll_short (w:World)(R:Nat)(ao:Option Addr)(cap:Nat)(bs:List Int)(s:Nat)(last:Bool)(lv:Int)(ba:Option Addr)(n bc:Nat)(L:List UInt8)
  (h:Wtr w R ao cap bs s) (hss:s≤800000) (hrow:RowB w w.heap.size ba L) (hrb:Reads w ba (nb L)) (hshp:∀ q,ba=some q→∃ g,q=⟨g,0,none⟩) (hn:n=L.length) (hn3:n≤32768) (hc:n≤bc) (hcm:bc≤9223372036854775807) (hnil:ba=none→bc=0)
  (hsb:∀ a,ba=some a→a.block≠R∧(Value.slice ao bs.length cap).ownBlock≠some a.block) (hT:DeB w) (hlv : -9223372036854775808≤lv∧lv≤9223372036854775807):
  Calls Tryz.prog 27 #[.pointer (some ⟨R,0,none⟩),.slice ba n bc,.int .i64 lv,.bool last] w (BlkBest w R ao cap bs s last (nb L) (restT lv L 0)):=by
 obtain ⟨f1,f2,f3,f4⟩:=rest_facts lv L (by omega)
 have htk:=tokens_all ba n bc lv L w hrow hn hn3 hc hcm hT hlv
 obtain ⟨ts,hts⟩:∃ ts,ts=restT lv L 0:=⟨_,rfl⟩
 rw [← hts] at f1 f2 f3 f4 htk ⊢
 have hlen:ts.length≤n:=by
  have h1:=rest_len lv L L.length 0 (by omega) (by omega)
  rw [hts];omega
 obtain ⟨N,hN⟩:∃ N,N=ts.length:=⟨_,rfl⟩
 rw [← hN] at htk hlen
 have hfl:(nb L).length=n:=by rw [nb_len];exact hn.symm
 obtain ⟨o1,c1,E1,P1⟩:=slc_lh ba n bc 0 n (nb L) hfl.symm hshp (Nat.zero_le _) (Nat.le_refl _) hc hnil
 rw [Nat.sub_zero] at E1
 have hE1:∀ W,(Instr.slice 22 (.slice ba n bc) (some (.int .i64 0)) (some (.int .i64 (n:Int))) none).run Tryz.prog W = .ok (.slice o1 n c1) W:=E1
 have H:=Hd h;have HRb:=Hd hrb;have HTk:=Hd htk;have HN:=Hd hN;have HF1:=Hd f1;have HF2:=Hd f2;have HF3:=Hd f3;have HF4:=Hd f4;have HSb:=Hd hsb;have HFl:=Hd hfl;have HP1:=Hd P1;have HE1:=Hd hE1;have HTs:=Hd hts
 clear h hrow hrb hshp hnil hsb hT htk f1 f2 f3 f4 hts hN hfl E1 P1 hE1 hn
 go_enter Tryz.func27,Tryz.ntmps27
 go_wp2_with fail
 refine HTk.out.mono ?_
 rintro e w1 ⟨a1,c1',rfl,hst,hk1⟩
 have HSt:=Hd hst;have HK1:=Hd hk1
 have HCapT:=Hd hst.cap
 obtain ⟨LO,hLO⟩:∃ LO,LO=w1.heap.size:=⟨_,rfl⟩
 have HLO:=Hd hLO
 clear hst hk1 hLO HTk
 go_wp2_with fail
 go_loopw [19,8,9,10,12,13,14] (fun iv bv gv av _t _r _z wr=>∃ (j at0:Nat) (ta:Option Addr) (tcap:Nat),j≤N∧iv = .int .i64 (j:Int)∧bv = .slice ta j tcap∧gv = .int .i64 0∧av = .int .i64 (at0:Int)∧at0≤n∧Hid (at0=(putAll (ts.take j) []).length)∧Hid (TkSt LO wr ta j tcap (ts.take j))∧Hid (Kept NoB w1 wr)) (fun iv _ _ _ _ _ _ _=>N - (intOf iv).toNat)
 case atStart=>exact ⟨0,0,none,0,by omega,rfl,rfl,rfl,rfl,by omega,Hd (by simp [putAll]),Hd (by simpa using TkSt.start LO w1),Hd (Kept.refl _ _)⟩
 case round=>
  obtain ⟨j,at0,ta,tcap,hj,rfl,rfl,rfl,rfl,hat,HAt,HTk,HK⟩:=hrel
  by_cases hlt:(j:Int) < (N:Int)
  ·have hjt:j < ts.length:=by have:=HN.out;omega
   obtain ⟨g,off,rfl,c0,c1b,c2⟩:=(HSt.out.reads.keptNo HK.out) j hjt
   have htm:ts.getD j ⟨0,0,0⟩∈ts:=by rw [List.getD,List.getElem?_eq_getElem hjt,Option.getD_some];exact List.getElem_mem hjt
   have hwf:=HF1.out _ htm
   have hok:=allOkB_mem HF4.out _ htm
   have hpl:=putAll_succ ts [] j hjt
   have hmo:=putAll_mono ts (j+1)
   rw [HF3.out,HFl.out] at hmo
   have hpn:=congrArg List.length hpl
   rw [put_len,← HAt.out] at hpn
   rw [hpn] at hmo
   have hsn:=take_snocT ts j hjt
   generalize ts.getD j ⟨0,0,0⟩=t at c0 c1b c2 hwf hok hpn hmo hsn
   have HPn:=Hd hpn;have HSn:=Hd hsn
   have hloW:LO≤wr.heap.size:=by rw [HLO.out];exact HK.out.size
   have hsh:=tok_shape hwf hok
   clear htm hwf hok hpl hpn hsn hjt
   have hway:∃ k:Nat,1≤k∧(t.l=0∧k=1∨t.l=(k:Int)∧1 < k):=by
    rcases hsh with ⟨c,hc,rfl⟩ | ⟨jj,u,hjj,hu,rfl⟩ | ⟨i,v,jj,u,hi,hv,hlv,hjj,hu,rfl⟩
    ·exact ⟨1,by omega,.inl ⟨rfl,rfl⟩⟩
    ·exact ⟨258,by omega,.inr ⟨rfl,by omega⟩⟩
    ·have h3:=lb_top i hi
     exact ⟨lb i+v,by omega,.inr ⟨rfl,by omega⟩⟩
   obtain ⟨k,hk1,hk⟩:=hway
   have hko:at0+k≤n:=by
    rcases hk with ⟨h1,h2⟩ | ⟨h1,h2⟩
    ·rw [if_pos h1] at hmo;omega
    ·rw [if_neg (by omega),h1,Int.toNat_natCast] at hmo;omega
   have HAn:Hid (at0+k=(putAll (ts.take (j+1)) []).length):=Hd (by
    rw [HPn.out]
    rcases hk with ⟨h1,h2⟩ | ⟨h1,h2⟩
    ·rw [if_pos h1];omega
    ·rw [if_neg (by omega),h1,Int.toNat_natCast])
   obtain ⟨tl,td,tc⟩:=t
   simp only at c0 c1b c2 hk
   obtain ⟨B,hB⟩:∃ B,B=wr.heap.size:=⟨_,rfl⟩
   have hkk:(tl=0∧k=1)∨(tl=(k:Int)∧1 < k):=hk
   clear hsh hmo hk
   rcases hkk with ⟨rfl,rfl⟩ | ⟨rfl,hk2⟩
   ·go_upto_region 5 with fail
    rw [← hB]
    obtain ⟨wb,hwb⟩:∃ wb,wb=wr.alloc (.cells #[.int .i64 0,.int .i64 td,.int .u8 tc] 101):=⟨_,rfl⟩
    have hc0:wb.cell? ⟨B,0,none⟩=some (.int .i64 0):=by rw [hwb,hB];exact cell_new 0 rfl
    have hc1:wb.cell? ⟨B,1,none⟩=some (.int .i64 td):=by rw [hwb,hB];exact cell_new 1 rfl
    have hc2:wb.cell? ⟨B,2,none⟩=some (.int .u8 tc):=by rw [hwb,hB];exact cell_new 2 rfl
    have hkb:Kept NoB wr wb:=by rw [hwb];exact (Kept.refl _ _).alloc _
    rw [← hwb]
    have HA0:Hid (TkSt LO (wb.alloc (.cells #[.int .i64 0,.int .i64 td,.int .u8 tc] 101)) ta j tcap (ts.take j)):=Hd (HTk.out.keptS (hkb.alloc _) (fun _ _ e=>e))
    have HloA:Hid (LO≤(wb.alloc (.cells #[.int .i64 0,.int .i64 td,.int .u8 tc] 101)).heap.size):=Hd (Nat.le_trans hloW (hkb.alloc _).size)
    have HKb:=Hd hkb
    have HOl:Hid (∀ q,(Value.slice ta j tcap).ownBlock=some q→q < B):=Hd (by rw [hB];exact own_lt HTk.out.own)
    have HBl:Hid (B < wb.heap.size):=Hd (World.block_lt_of_cell? wb _ hc0)
    have HC0:=Hd hc0
    clear hB hwb hkb hloW c0 c1b c2
    go_wp2_with (at_builtin;refine wpList_tk2 rfl (.tmp 70) (.tmp 72) rfl HA0.out HloA.out rfl wb.heap.size 1 (Tk.mk 0 td tc) rfl (cell_new 0 rfl) (cell_new 1 rfl) (cell_new 2 rfl) (by omega) ?_)
    intro a2 c2' w2' hst2 hk2'
    have hd0:w2'.cell? ⟨B,0,none⟩=some (.int .i64 0):=by
     have h1:(wb.alloc (.cells #[.int .i64 0,.int .i64 td,.int .u8 tc] 101)).cell? ⟨B,0,none⟩=some (.int .i64 0):=((Kept.refl NoB wb).alloc _).cell HC0.out
     exact (World.cell?_of_block (hk2'.block _ (World.block_lt_of_cell? _ _ h1) (fun e=>by have:=HOl.out _ e;simp only at this;omega))).trans h1
    have HSt2:Hid (TkSt LO w2' a2 (j+1) c2' (ts.take (j+1))):=Hd (by rw [HSn.out];exact hst2)
    have HKn:Hid (Kept NoB w1 w2'):=Hd (((HK.out.trans HKb.out).alloc _).transO hk2' (fun i hi e=>by have h1:=HTk.out.fresh i e;have h2:=HLO.out;omega))
    clear hst2 hk2' hc0 hc1 hc2 HC0
    go_wp2
    go_roundw
    case rel=>exact ⟨j+1,at0+1,a2,c2',by omega,by go_num,rfl,rfl,by go_num,by omega,HAn,HSt2,HKn⟩
    case measure=>simp [intOf];omega
   ·go_upto_region 5 with fail
    rw [← hB]
    obtain ⟨wb,hwb⟩:∃ wb,wb=wr.alloc (.cells #[.int .i64 (k:Int),.int .i64 td,.int .u8 tc] 101):=⟨_,rfl⟩
    have hc0:wb.cell? ⟨B,0,none⟩=some (.int .i64 (k:Int)):=by rw [hwb,hB];exact cell_new 0 rfl
    have hc1:wb.cell? ⟨B,1,none⟩=some (.int .i64 td):=by rw [hwb,hB];exact cell_new 1 rfl
    have hc2:wb.cell? ⟨B,2,none⟩=some (.int .u8 tc):=by rw [hwb,hB];exact cell_new 2 rfl
    have hkb:Kept NoB wr wb:=by rw [hwb];exact (Kept.refl _ _).alloc _
    rw [← hwb]
    have HA0:Hid (TkSt LO (wb.alloc (.cells #[.int .i64 (k:Int),.int .i64 td,.int .u8 tc] 101)) ta j tcap (ts.take j)):=Hd (HTk.out.keptS (hkb.alloc _) (fun _ _ e=>e))
    have HloA:Hid (LO≤(wb.alloc (.cells #[.int .i64 (k:Int),.int .i64 td,.int .u8 tc] 101)).heap.size):=Hd (Nat.le_trans hloW (hkb.alloc _).size)
    have HKb:=Hd hkb
    have HOl:Hid (∀ q,(Value.slice ta j tcap).ownBlock=some q→q < B):=Hd (by rw [hB];exact own_lt HTk.out.own)
    have HBl:Hid (B < wb.heap.size):=Hd (World.block_lt_of_cell? wb _ hc0)
    have HC0:=Hd hc0
    clear hB hwb hkb hloW c0 c1b c2
    go_wp2_with (at_builtin;refine wpList_tk2 rfl (.tmp 70) (.tmp 72) rfl HA0.out HloA.out rfl wb.heap.size 1 (Tk.mk (k:Int) td tc) rfl (cell_new 0 rfl) (cell_new 1 rfl) (cell_new 2 rfl) (by omega) ?_)
    intro a2 c2' w2' hst2 hk2'
    have hd0:w2'.cell? ⟨B,0,none⟩=some (.int .i64 (k:Int)):=by
     have h1:(wb.alloc (.cells #[.int .i64 (k:Int),.int .i64 td,.int .u8 tc] 101)).cell? ⟨B,0,none⟩=some (.int .i64 (k:Int)):=((Kept.refl NoB wb).alloc _).cell HC0.out
     exact (World.cell?_of_block (hk2'.block _ (World.block_lt_of_cell? _ _ h1) (fun e=>by have:=HOl.out _ e;simp only at this;omega))).trans h1
    have HSt2:Hid (TkSt LO w2' a2 (j+1) c2' (ts.take (j+1))):=Hd (by rw [HSn.out];exact hst2)
    have HKn:Hid (Kept NoB w1 w2'):=Hd (((HK.out.trans HKb.out).alloc _).transO hk2' (fun i hi e=>by have h1:=HTk.out.fresh i e;have h2:=HLO.out;omega))
    clear hst2 hk2' hc0 hc1 hc2 HC0
    go_wp2
    go_roundw
    case rel=>exact ⟨j+1,at0+k,a2,c2',by omega,by go_num,rfl,rfl,by go_num,by omega,HAn,HSt2,HKn⟩
    case measure=>simp [intOf];omega
  ·have hjN:j=N:=by omega
   subst hjN
   have htk:ts.take j=ts:=List.take_of_length_le (by rw [← HN.out];exact Nat.le_refl _)
   rw [htk] at HAt HTk
   have hatn:at0=n:=by rw [HAt.out,HF3.out];exact HFl.out
   subst hatn
   have hkw:=HK1.out.trans HK.out
   have hE:=HE1.out
   have hrd:Reads wr o1 (nb L):=by
    have h:=HP1.out.reads wr (HRb.out.kept hkw (fun _ _ e=>e))
    rwa [List.drop_zero,Nat.sub_zero,List.take_of_length_le (by rw [HFl.out];exact Nat.le_refl _)] at h
   have hwb:=writeBest_any wr R ao cap bs s last o1 c1 (nb L) ta tcap ts (H.out.keptNo hkw) hss hrd (nb_all L) (by rw [HFl.out];omega) (fun _ q hq=>by
     obtain ⟨q',h1,h2⟩:=HP1.out.block q hq
     rw [h2];exact HSb.out q' h1)
    HTk.out.reads (fun _ q hq=>by
     have h1:=HTk.out.fresh q.block (by rw [hq];rfl)
     have h2:=HLO.out
     have h3:=HK1.out.size
     have h4:=obj_lt H.out.1
     exact ⟨by omega,fun e=>by have:=own_lt H.out.2.1 _ e;omega⟩) (by rw [← HN.out];omega) HF1.out HF4.out
   rw [HFl.out,← HN.out] at hwb
   have HWb:=Hd hwb;have HKw:=Hd hkw
   clear hrd hwb hkw htk HAt
   go_wp2_with fail
   refine HWb.out.mono ?_
   rintro e w9 ⟨qs,a9,c9,b9,rfl,hW,hlen,hform⟩
   have HW:=Hd (hW.base HKw.out);have HLen:=Hd hlen;have HFm:=Hd hform
   clear hW hlen hform HWb
   go_wp2
   refine bodyPost_end (results_none rfl _ _ _) rfl ?_
   exact ⟨qs,a9,c9,b9,rfl,HW.out,HLen.out,HFm.out⟩
theorem growB_nil (n:Nat)(w:World)(hn:1≤n∧n≤100000):
  Calls Tryz.prog 49 #[.slice none 0 0,.int .i64 (n:Int)] w fun e w'=>∃ c,e = .returned (.slice (some ⟨w.heap.size,0,none⟩) 0 c)∧BySt w w' (some ⟨w.heap.size,0,none⟩) 0 c []:=by
 obtain ⟨i0,hi,hz0,hz1,hz2⟩:=info_parts info5
 have h1:¬ ((n:Int) < 0):=by omega
 have h2:(0:Int) < (n:Int):=by omega
 have hold:(Builtin.firstCells i0.size 0 (.slice none 0 0)).run Tryz.prog w.drew = .ok #[] w.drew:=run_firstCells_none w.drew i0.size 0 0 0
 have hrz:∀ ty,(Builtin.append_ #[22,3] ty #[.slice none 0 0,.int .i64 (n:Int)]).run Tryz.prog w=
   .ok (.slice (some ⟨w.heap.size,0,none⟩) n (grownCap w n 0 5)) (w.drew.alloc (.cells (([]:List Value).toArray++Builtin.zeroCells (Value.int .u8 0).cells n++Builtin.zeroCells (Value.int .u8 0).cells (grownCap w n 0 5 - n)) 5)):=fun ty=>by
  have h:=Lib.run_append_grow_zeros w 22 3 ty 5 i0 (.int .u8 0) .i64 .i64 Tryz.underlying22 rfl hi hz0 none 0 0 [] hold n (by omega) (by rw [hz1];omega) (by omega) (by omega)
   (by rw [hz2];omega)
   (by rw [Nat.zero_add];exact growslice_fits (by omega) (by rw [hz2];omega))
  rw [Nat.zero_add] at h
  exact h
 have hGn:n≤grownCap w n 0 5:=grownCap_ge w _ _ _
 have hGm:grownCap w n 0 5≤maxLen:=grownCap_le_maxLen w n 0 5 (by unfold maxLen;omega)
 obtain ⟨G,hG⟩:∃ G,G=grownCap w n 0 5:=⟨_,rfl⟩
 rw [← hG] at hrz hGn hGm
 have hcz:∀ k,(Builtin.zeroCells (Value.int .u8 0).cells k).size=k:=fun k=>by simp [Builtin.zeroCells,Value.cells]
 obtain ⟨cs,hcs⟩:∃ cs:Array Value,cs=([]:List Value).toArray++Builtin.zeroCells (Value.int .u8 0).cells n++Builtin.zeroCells (Value.int .u8 0).cells (G - n):=⟨_,rfl⟩
 have hsz:cs.size=G:=by rw [hcs];simp [hcz];omega
 rw [← hcs] at hrz
 have hst:BySt w (w.drew.alloc (.cells cs 5)) (some ⟨w.heap.size,0,none⟩) 0 G []:=⟨rfl,⟨rfl,.inr ⟨w.heap.size,G,cs,rfl,Nat.zero_le _,by simpa using heap_alloc_new w.drew (.cells cs 5),Nat.zero_le _,hGm,by rw [hsz,Nat.mul_one],by simp [bc]⟩⟩,(Kept.drew (Kept.refl NoB w)).alloc _,fun k hk=>by simp [Value.ownBlock] at hk;omega⟩
 have HSt:=Hd hst
 have g63:(G:Int)≤9223372036854775807:=by unfold maxLen at hGm;omega
 clear hold hG hcs hsz hst hGm hcz
 go_enter Tryz.func49,Tryz.ntmps49
 go_wp2_with (at_builtin;refine Lib.wpList_append_run _ rfl _ _ _ _ rfl _ _ rfl rfl _ _ (hrz _) ?_)
 all_goals (go_ret;exact ⟨G,rfl,HSt.out⟩)
theorem growB_zero (w:World):Calls Tryz.prog 49 #[.slice none 0 0,.int .i64 0] w fun e w'=>e = .returned (.slice none 0 0)∧Kept NoB w w':=by
 go_enter Tryz.func49,Tryz.ntmps49
 go_wp2
 go_ret
 exact ⟨rfl,Kept.refl _ _⟩
theorem flat_step (ps:List (List UInt8))(i:Nat)(h:i < ps.length):(ps.take (i+1)).flatten=(ps.take i).flatten++ps.getD i []:=by
 rw [List.take_add_one,List.getElem?_eq_getElem h,List.flatten_append]
 simp [List.getD,h]
theorem flat_le (ps:List (List UInt8))(i:Nat):((ps.take i).flatten).length≤ps.flatten.length:=by
 conv=>rhs;rw [← List.take_append_drop i ps]
 rw [List.flatten_append,List.length_append];omega
theorem concatB_any (H k:Nat)(ps:List (List UInt8))(w:World)(hk:k=ps.length)(hk4:k≤1000)(hp:∀ i,i < k→∃ o c,w.cell? ⟨H,i,none⟩=some (.slice o (ps.getD i []).length c)∧Reads w o (nb (ps.getD i []))∧(o=none→c=0))(hlen:ps.flatten.length≤100000):
  Calls Tryz.prog 24 #[.slice (some ⟨H,0,none⟩) k k] w fun e w'=>∃ a l c,e = .returned (.slice a l c)∧l=ps.flatten.length∧BySt w w' a l c ps.flatten:=by
 have HK:=Hd hk;have HP:=Hd hp;have HLen:=Hd hlen
 clear hk hp hlen
 go_enter Tryz.func24,Tryz.ntmps24
 go_wp2_with fail
 go_loopw [11,3,5] (fun iv sv _p wr=>∃ i S:Nat,i≤k∧iv = .int .i64 (i:Int)∧sv = .int .i64 (S:Int)∧Hid (S=((ps.take i).flatten).length)∧w=wr) (fun iv _ _ _=>k - (intOf iv).toNat)
 case atStart=>exact ⟨0,0,by omega,rfl,rfl,Hd (by simp),rfl⟩
 case round=>
  obtain ⟨i,S,hi,rfl,rfl,HS,rfl⟩:=hrel
  by_cases hlt:(i:Int) < (k:Int)
  ·have hil:i < ps.length:=by have:=HK.out;omega
   obtain ⟨o,c,hc,_,_⟩:=HP.out i (by omega)
   have hfs:=congrArg List.length (flat_step ps i hil)
   rw [List.length_append,← HS.out] at hfs
   have hle:=flat_le ps (i+1)
   obtain ⟨m,hm⟩:∃ m,m=(ps.getD i []).length:=⟨_,rfl⟩
   rw [← hm] at hc hfs
   have hSm:S+m≤100000:=by have:=HLen.out;omega
   have HFs:=Hd hfs
   have hng:¬ ((S:Int)+(m:Int) < 0):=by omega
   clear hfs hle hm hil
   go_wp2
   go_roundw
   case rel=>exact ⟨i+1,S+m,by omega,by go_num,by go_num,Hd HFs.out.symm,trivial⟩
   case measure=>simp [intOf];omega
  ·have hik:i=k:=by omega
   subst hik
   have htk:ps.take i=ps:=List.take_of_length_le (by rw [← HK.out];exact Nat.le_refl _)
   rw [htk] at HS
   have hS1:S≤100000:=by have:=HS.out;have:=HLen.out;omega
   have hgr:Calls Tryz.prog 49 #[.slice none 0 0,.int .i64 (S:Int)] w fun e w'=>∃ a c,e = .returned (.slice a 0 c)∧BySt w w' a 0 c []:=by
    by_cases h0:S=0
    ·subst h0
     refine (growB_zero w).mono ?_
     rintro e w' ⟨rfl,hk'⟩
     exact ⟨none,0,rfl,(BySt.nil w).on hk'⟩
    ·refine (growB_nil S w (by omega)).mono ?_
     rintro e w' ⟨c,rfl,hst⟩
     exact ⟨_,c,rfl,hst⟩
   have HGr:=Hd hgr
   clear htk hgr
   go_wp2_with fail
   refine HGr.out.mono ?_
   rintro e w1 ⟨a1,c1,rfl,hst⟩
   have HSt:=Hd hst
   clear hst HGr
   go_wp2_with fail
   go_loopw [27,6,8] (fun iv bv _p wr=>∃ (j l:Nat) (a:Option Addr) (c:Nat),j≤i∧iv = .int .i64 (j:Int)∧bv = .slice a l c∧Hid (l=((ps.take j).flatten).length)∧l≤100000∧Hid (BySt w wr a l c (ps.take j).flatten)) (fun iv _ _ _=>i - (intOf iv).toNat)
   case atStart=>exact ⟨0,0,a1,c1,by omega,rfl,rfl,Hd (by simp),by omega,Hd (by simpa using HSt.out)⟩
   case round=>
    obtain ⟨j,l,a,c,hj,rfl,rfl,HL,hl,HB⟩:=hrel
    by_cases hlt2:(j:Int) < (i:Int)
    ·have hjl:j < ps.length:=by have:=HK.out;omega
     obtain ⟨o,pc,hc,hrd,hnil⟩:=HP.out j (by omega)
     have hcw:=HB.out.kept.cell hc
     have hrw:=hrd.kept HB.out.kept (fun _ _ e=>e)
     have hfs:=flat_step ps j hjl
     have hfl:=congrArg List.length hfs
     rw [List.length_append,← HL.out] at hfl
     have hle:=flat_le ps (j+1)
     obtain ⟨b,hb⟩:∃ b,b=ps.getD j []:=⟨_,rfl⟩
     rw [← hb] at hcw hrw hfs hfl
     obtain ⟨m,hm⟩:∃ m,m=b.length:=⟨_,rfl⟩
     rw [← hm] at hcw hfl
     have hlm:l+m≤100000:=by have:=HLen.out;omega
     have HFs:=Hd hfs;have HFl:=Hd hfl;have HM:=Hd hm;have HRw:=Hd hrw
     clear hfs hfl hle hb hm hrd hc hjl hrw
     cases o with
     | none=>
      have hm0:m=0:=by
       have h:=HRw.out.1 rfl
       have h2:=congrArg List.length h
       rw [nb_len] at h2
       rw [HM.out];simpa using h2
      have hpc:=hnil rfl
      subst hpc
      subst hm0
      have hbn:b=[]:=List.eq_nil_of_length_eq_zero HM.out.symm
      have HBn:Hid (BySt w wr a l c (ps.take (j+1)).flatten):=Hd (by rw [HFs.out,hbn,List.append_nil];exact HB.out)
      clear hnil hbn
      go_wp2_with (at_builtin;refine wpList_by_none rfl (.tmp 31) (.tmp 32) rfl HB.out rfl rfl ?_)
      go_wp2
      go_roundw
      case rel=>exact ⟨j+1,l,a,c,by omega,by go_num,rfl,Hd (by rw [HFl.out];rfl),by omega,HBn⟩
      case measure=>simp [intOf];omega
     | some ad=>
      clear hnil
      go_wp2_with (at_builtin;refine wpList_by_row rfl (.tmp 31) (.tmp 32) rfl HB.out rfl ad pc m b HM.out rfl HRw.out (by omega) ?_)
      intro a2 c2 w2 hS2
      have HS2:Hid (BySt w w2 a2 (l+m) c2 (ps.take (j+1)).flatten):=Hd (by rw [HFs.out];exact hS2)
      clear hS2
      go_wp2
      go_roundw
      case rel=>exact ⟨j+1,l+m,a2,c2,by omega,by go_num,rfl,Hd HFl.out.symm,by omega,HS2⟩
      case measure=>simp [intOf];omega
    ·have hji:j=i:=by omega
     subst hji
     have htk:ps.take j=ps:=List.take_of_length_le (by rw [← HK.out];exact Nat.le_refl _)
     rw [htk] at HL HB
     clear htk
     go_wp2
     go_ret
     exact ⟨a,l,c,rfl,by have h:=HL.out;simpa using h,HB.out⟩
theorem no_to {t:Tk}{n:Nat}{m m2:Int}(h:t.no n m=0)(hm:m≤m2):t.no n m2=0:=by
 unfold Tk.no at h ⊢
 repeat' split at h
 all_goals first | (exact absurd h (by decide)) | skip
 all_goals (repeat' split) <;> first | rfl | omega | (simp_all;try omega)
theorem good_to {m m2:Int}(hm:m≤m2):∀ (ts:List Tk) (bs:List Int),good m ts bs→good m2 ts bs
 | [],bs,h=>h
 | t :: ts,bs,h=>⟨no_to h.1 hm,good_to hm ts _ h.2⟩
structure PackedP (lv:Int)(L:List UInt8)(bs:List Int)(qs:List (Nat × Nat)):Prop where
 all:AllB bs
 len:bs.length=(wdN qs+7) / 8
 puts:Puts bs 0 qs
 few:wdN qs≤40+8*L.length
 low:lv < 1→qs=storedW true 5 (nb L)
 pos:3≤wdN qs
 run2:∀ (b2:List Int) (post:List (Nat × Nat)) (M:Nat),L.length≤M→Puts b2 0 (qs++post)→Steps b2 M 0 .block false [] (wdN qs) .fin true (nb L)
theorem stored_wd5 (b:List Int):wdN (storedW true 5 b)=40+8*b.length:=by
 unfold storedW
 rw [wdN_append,bytesW_wd]
 simp only [wdN]
theorem packed_of {w w':World}{R cap:Nat}{v0:Value}{lv:Int}{L:List UInt8}{qs:List (Nat × Nat)}{ao:Option Addr}{bs:List Int}(hL:L.length≤32768)(h:WroteP w R v0 [] 0 qs w' ao cap bs)(hlen:wdN qs≤wdN (storedW true 5 (nb L)))(hlow:lv < 1→qs=storedW true 5 (nb L))
  (hf:qs=storedW true 5 (nb L)∨(∃ ws,TokWs fixL fixD (restT lv L 0) ws∧qs=[(lastN true,1),(1,2)]++(ws++[wordZ fixL 256])) ∨
   (∃ lit dist code told rs ws,CodeOk lit∧CodeOk dist∧HasC lit 256∧headB lit dist=true∧CodeW code told rs (lit++dist)∧TokWs lit dist (restT lv L 0) ws∧qs=[(lastN true,1),(2,2)]++(headW lit dist code told rs++(ws++[wordZ lit 256])))):PackedP lv L bs qs:=by
 have hl:=h.1.2.2.2.1
 rw [Nat.zero_add] at hl
 have hall:=h.1.2.2.1
 rw [stored_wd5,nb_len] at hlen
 obtain ⟨f1,f2,f3,f4⟩:=rest_facts lv L hL
 have hup:up8 (0+3) - (0+3)=5:=rfl
 have hpos:3≤wdN qs:=by
  rcases hf with rfl | ⟨ws,_,rfl⟩ | ⟨lit,dist,code,told,rs,ws,_,_,_,_,_,_,rfl⟩
  ·rw [stored_wd5];omega
  ·rw [wdN_append];simp only [wdN];omega
  ·rw [wdN_append];simp only [wdN];omega
 rcases hf with rfl | ⟨ws,hws,rfl⟩ | ⟨lit,dist,code,told,rs,ws,d1,d2,d3,d4,d5,hws,rfl⟩
 ·have hbk:=BlkS.stored 0 true (nb L) (nb_all L) (by rw [nb_len];omega)
  rw [hup] at hbk
  have hp:=puts_of h hbk.lt
  refine ⟨hall,hl,hp,hlen,hlow,hpos,fun b2 post M hM hp2=>?_⟩
  have h2:=hbk.run b2 [] post M false [] rfl (by simpa using hp2) (by rw [nb_len];simpa using hM)
  simpa [wdN,endM] using h2
 ·have hlt:∀ y∈[(lastN true,1),(1,2)]++(ws++[wordZ fixL 256]),y.1 < 2 ^ y.2:=by
   intro y hy
   rcases List.mem_append.1 hy with h | h
   ·simp only [List.mem_cons,List.not_mem_nil,or_false] at h
    rcases h with rfl | rfl
    ·exact lastN_one true
    ·decide
   ·rcases List.mem_append.1 h with h | h
    ·exact hws.lt y h
    ·simp only [List.mem_cons,List.not_mem_nil,or_false] at h;subst h;exact wordZ_lt _ _
  have hp:=puts_of h hlt
  refine ⟨hall,hl,hp,hlen,hlow,hpos,fun b2 post M hM hp2=>?_⟩
  have h2:=fixed_steps (bs:=b2) (s:=0) (most:=M) (last:=true) (l0:=false) (pre:=[]) (post:=post) (out:=[]) hws (by simpa using hp2) (good_to (by omega) _ _ f2)
  rw [f3] at h2
  simpa [wdN,endM] using h2
 ·have hlt:∀ y∈[(lastN true,1),(2,2)]++(headW lit dist code told rs++(ws++[wordZ lit 256])),y.1 < 2 ^ y.2:=by
   intro y hy
   rcases List.mem_append.1 hy with h | h
   ·simp only [List.mem_cons,List.not_mem_nil,or_false] at h
    rcases h with rfl | rfl
    ·exact lastN_one true
    ·decide
   ·rcases List.mem_append.1 h with h | h
    ·exact headW_lt d5 d4 y h
    ·rcases List.mem_append.1 h with h | h
     ·exact hws.lt y h
     ·simp only [List.mem_cons,List.not_mem_nil,or_false] at h;subst h;exact wordZ_lt _ _
  have hp:=puts_of h hlt
  refine ⟨hall,hl,hp,hlen,hlow,hpos,fun b2 post M hM hp2=>?_⟩
  have h2:=dynamic_steps (bs:=b2) (s:=0) (most:=M) (last:=true) (l0:=false) (pre:=[]) (post:=post) (out:=[]) hws d1 d2 d3 d5 d4 (by simpa using hp2) (good_to (by omega) _ _ f2)
  rw [f3] at h2
  simpa [wdN,endM] using h2
theorem allPack_any (w:World)(lv:Int)(H k:Nat)(ps:List (List UInt8))(hk:k=ps.length)(hk4:k≤1000)(hp:∀ i,i < k→∃ o c,w.cell? ⟨H,i,none⟩=some (.slice o (ps.getD i []).length c)∧Reads w o (nb (ps.getD i []))∧(o=none→c=0))(hlen:ps.flatten.length≤32768)
  (hT:DeB w) (hlv : -9223372036854775808≤lv∧lv≤9223372036854775807):
  Calls Tryz.prog 9 #[.int .i64 lv,.slice (some ⟨H,0,none⟩) k k] w fun e w'=>∃ ao c bs qs,e = .returned (.slice ao bs.length c)∧PackedP lv ps.flatten bs qs∧Reads w' ao bs∧(ao=none→c=0)∧bs.length≤c∧Kept NoB w w':=by
 have HCc:=Hd (concatB_any H k ps w hk hk4 hp (by omega))
 have HT:=Hd hT
 obtain ⟨L,hL⟩:∃ L,L=ps.flatten:=⟨_,rfl⟩
 rw [← hL] at HCc hlen ⊢
 clear hk hp hT hL
 go_enter Tryz.func9,Tryz.ntmps9
 go_wp2_with fail
 refine HCc.out.mono ?_
 rintro e w1 ⟨a,n,c,rfl,hn,hst⟩
 have HSt:=Hd hst;have HN:=Hd hn
 have hcap:=hst.cap
 have hnl:n≤32768:=by omega
 clear hst hn HCc
 go_wp2_with fail
 refine (neww_any _).mono ?_
 rintro e w2 ⟨A,rfl,hW,hAf,hk2⟩
 have HW:=Hd hW;have HAf:Hid (w1.heap.size≤A):=Hd hAf;have HK2:=Hd hk2
 clear hW hAf hk2
 have hsh:∀ q,a=some q→∃ g,q=⟨g,0,none⟩:=fun q hq=>by
  rcases HSt.out.own.2 with ⟨hv,_⟩ | ⟨g,cc,cur,hv,_⟩
  ·simp at hv;rw [hv.1] at hq;cases hq
  ·simp at hv;rw [hv.1] at hq;cases hq;exact ⟨g,rfl⟩
 have hxl:n=(nb L).length:=by rw [nb_len];exact HN.out
 have hE1:∀ W,(Instr.slice 22 (.slice a n c) none (some (.int .i64 (n:Int))) none).run Tryz.prog W = .ok (.slice a n c) W:=fun W=>by
  rw [run_slice_h (P:=Tryz.prog) (w:=W) 22 a n c (by kernel_rfl) .i64 (n:Int) (by omega) (by have:=hcap.1;omega),size_u8]
  simp only [Result.andThen,Int.toNat_natCast]
  unfold sliced
  rw [Nat.sub_zero,Nat.sub_zero]
  cases a with
  | none=>simp
  | some q=>
   obtain ⟨g,rfl⟩:=hsh q rfl
   simp [addr_add]
 obtain ⟨o2,c2,hE2,_⟩:=slc_l a n c n (nb L) hxl hsh (Nat.le_refl _) hcap.1 hcap.2.2
 rw [Nat.sub_self] at hE2
 have hblk:∀ q,a=some q→q.block < w1.heap.size:=fun q hq=>own_lt HSt.out.own _ (by rw [hq];rfl)
 have hsep:∀ q,a=some q→q.block≠A∧(Value.slice none ([]:List Int).length 0).ownBlock≠some q.block:=fun q hq=>by
  have h1:=hblk q hq
  have h2:=HAf.out
  exact ⟨by omega,by simp [Value.ownBlock]⟩
 have hst2:BySt w w2 a n c L:=HSt.out.on HK2.out
 have hrd:=hst2.reads
 have hcS:=storeAll_few w2 A none 0 [] 0 true a c (nb L) HW.out (by omega) hrd (nb_all L) (by rw [nb_len];omega) hsep
 rw [← hxl] at hcS
 have HcS:=Hd hcS
 have HcP:=Hd (packAll_short w2 A none 0 [] 0 true lv a n c L HW.out (by omega) hst2.rowB hrd hsh HN.out hnl hcap.1 (by have:=hcap.2.1;unfold maxLen at this;omega) hcap.2.2 hsep (HT.out.kept (HSt.out.kept.trans HK2.out)) hlv)
 have HCap:=Hd hcap;have HKw2:=Hd hst2.kept;have HAw:Hid (w.heap.size≤A):=Hd (Nat.le_trans HSt.out.kept.size HAf.out)
 have hfin:∀ (w3:World) (qs:List (Nat × Nat)) (a3:Option Addr) (c3:Nat) (b3:List Int),WroteP w2 A (.slice none ([]:List Int).length 0) [] 0 qs w3 a3 c3 b3→PackedP lv L b3 qs→
   Calls Tryz.prog 28 #[.pointer (some ⟨A,0,none⟩)] w3 fun e w'=>∃ ao c bs qs,e = .returned (.slice ao bs.length c)∧PackedP lv L bs qs∧Reads w' ao bs∧(ao=none→c=0)∧bs.length≤c∧Kept NoB w w':=fun w3 qs a3 c3 b3 h1 h2=>by
  refine (wbytes_any _ _ _ _ _ _ h1.1).mono ?_
  rintro e w' ⟨ao',cap',rfl,ho,hf,hn,hk'⟩
  refine ⟨ao',cap',b3,qs,rfl,h2,own_reads ho rfl,own_nil ho,(own_cap2 ho).1,?_⟩
  refine (HKw2.out.transO h1.2.2.1 (fun i hi e=>?_)).trans hk'
  rcases e with e | e
  ·unfold OneB at e;have:=HAw.out;omega
  ·unfold OwnB at e;simp [Value.ownBlock] at e
 have HFin:=Hd hfin
 have hLl:L.length≤32768:=hlen
 have hmin:¬ (1048560:Int) < (n:Int):=by omega
 have hmin2:min (n:Int) 1048560=(n:Int):=by omega
 clear hsh hxl hblk hsep hst2 hrd hcS hfin hcap
 go_wp2_with fail
 go_loopw [5,7] (fun bv _n wr=>bv = .slice a n c∧w2=wr) (fun _ _ _=>0)
 case atStart=>exact ⟨rfl,rfl⟩
 case round=>
  obtain ⟨rfl,rfl⟩:=hrel
  by_cases hl1:lv < 1
  ·go_wp2_with fail
   refine HcS.out.mono ?_
   rintro e w3 ⟨a3,c3,b3,rfl,hW3⟩
   have hup:up8 (0+3) - (0+3)=5:=rfl
   rw [hup] at hW3
   have HF3:=Hd (HFin.out w3 _ a3 c3 b3 hW3 (packed_of hLl hW3 (Nat.le_refl _) (fun _=>rfl) (.inl rfl)))
   clear hW3 hup
   go_wp2_with fail
   refine HF3.out.mono ?_
   rintro e w4 ⟨ao,c4,bs,qs,rfl,h1,h2,h3,h4,h5⟩
   have H1:=Hd h1;have H2:=Hd h2;have H3:=Hd h3;have H4:=Hd h4;have H5:=Hd h5
   clear h1 h2 h3 h4 h5
   go_wp2
   go_ret
   exact ⟨ao,c4,bs,qs,rfl,H1.out,H2.out,H3.out,H4.out,H5.out⟩
  ·go_wp2_with fail
   refine HcP.out.mono ?_
   rintro e w3 ⟨qs3,a3,c3,b3,rfl,hW3,hlen3,hform3⟩
   have hup:up8 (0+3) - (0+3)=5:=rfl
   rw [hup] at hlen3 hform3
   have HF3:=Hd (HFin.out w3 _ a3 c3 b3 hW3 (packed_of hLl hW3 hlen3 (fun h=>absurd h (by omega)) hform3))
   clear hW3 hup hlen3 hform3
   go_wp2_with fail
   refine HF3.out.mono ?_
   rintro e w4 ⟨ao,c4,bs,qs,rfl,h1,h2,h3,h4,h5⟩
   have H1:=Hd h1;have H2:=Hd h2;have H3:=Hd h3;have H4:=Hd h4;have H5:=Hd h5
   clear h1 h2 h3 h4 h5
   go_wp2
   go_ret
   exact ⟨ao,c4,bs,qs,rfl,H1.out,H2.out,H3.out,H4.out,H5.out⟩
end Go.Proofs.YtfmjfgmbjdhogaaGreatDoor
