import Derived.Test.YtfmjfgmbjdhogaaGreatDoorMb16
import Derived.Deep.CutBlock
set_option linter.unusedVariables false
set_option linter.unusedSimpArgs false
set_option maxRecDepth 20000
set_option maxHeartbeats 8000000
namespace Go.Proofs.YtfmjfgmbjdhogaaGreatDoor
open Go.RowKit
theorem Steps.to {bs:List Int}{most p p1 q q1:Nat}{m m1:Md}{l l1:Bool}{o o1:List Int}(h:Steps bs most p m l o p1 m1 l1 o1)(e:p=q)(e1:p1=q1):Steps bs most q m l o q1 m1 l1 o1:=by subst e;subst e1;exact h
theorem TokWs.steps {bs:List Int}{s most:Nat}{lit dist:List Int}{last:Bool}{ts:List Tk}{ws:List (Nat × Nat)}(hw:TokWs lit dist ts ws)(hl:CodeOk lit)(hd:CodeOk dist):∀ (pre post:List (Nat × Nat)) (out:List Int),Puts bs s (pre++ws++post)→good (most:Int) ts out→
  Steps bs most (s+wdN pre) (.sym lit dist) last out (s+wdN (pre++ws)) (.sym lit dist) last (putAll ts out):=by
 induction hw with
 | nil=>intro pre post out h hg;rw [List.append_nil];exact .refl
 | @cons t r ws vs ht hr ih=>
  intro pre post out h hg
  have h1:=ht.step (last:=last) (post:=vs++post) (by simpa using h) hl hd hg.1
  have h2:=ih (pre++ws) post (t.put out) (by simpa using h) hg.2
  rw [List.append_assoc] at h2
  exact .step h1 h2
theorem end_step {bs:List Int}{s most:Nat}{lit dist:List Int}{last:Bool}{pre post:List (Nat × Nat)}{out:List Int}(h:Puts bs s (pre++wordZ lit 256 :: post))(hl:CodeOk lit)(hc:HasC lit 256):
  ItemR bs most (s+wdN pre) (.sym lit dist) last out 0 (s+wdN (pre++[wordZ lit 256])) (endM last) last out:=by
 have hs:=h.sym hl hc
 unfold ItemR
 refine ⟨256,0,_,hs,?_⟩
 rw [if_neg (by decide),if_neg (by decide),if_pos rfl]
 exact ⟨rfl,rfl,rfl,rfl,rfl⟩
def lastN (last:Bool):Nat:=if last then 1 else 0
theorem lastN_lt (last:Bool):lastN last < 2:=by unfold lastN;split <;> decide
theorem kind_bits {bs:List Int}{s:Nat}{pre post:List (Nat × Nat)}{last:Bool}{k:Nat}(h:Puts bs s (pre++(lastN last,1) :: (k,2) :: post))(hk:k < 4):bitsAt bs (s+wdN pre) 3=lastN last+2*k∧s+wdN pre+3≤8*bs.length:=by
 have h1:=h.is
 have h2:=(show Puts bs s ((pre++[(lastN last,1)])++(k,2) :: post) by simpa using h).is
 have h3:=h.room
 rw [wdN_append] at h2
 simp only [wdN,Nat.add_zero] at h2 h3
 rw [← Nat.add_assoc] at h2
 have hl:=lastN_lt last
 refine ⟨?_,by omega⟩
 unfold bitsAt at h1 h2 ⊢
 rw [Nat.pow_succ,← Nat.div_div_eq_div_mul] at h2
 generalize num bs / 2 ^ (s+wdN pre)=x at h1 h2 ⊢
 omega
theorem kind_step {bs:List Int}{s most:Nat}{pre post:List (Nat × Nat)}{last l0:Bool}{out:List Int}{k:Nat}(h:Puts bs s (pre++(lastN last,1) :: (k,2) :: post))(hk:k < 3):
  ItemR bs most (s+wdN pre) .block l0 out 0 (s+wdN (pre++[(lastN last,1),(k,2)])) (if k=0 then .stored else if k=1 then .sym fixL fixD else .head) last out:=by
 obtain ⟨h1,h2⟩:=kind_bits h (by omega)
 have hl:=lastN_lt last
 have e:s+wdN (pre++[(lastN last,1),(k,2)])=s+wdN pre+3:=by rw [wdN_append];simp only [wdN];omega
 have el:last=((lastN last+2*k) % 2 == 1):=by
  cases last
  ·simp [lastN]
  ·simp [lastN] <;> omega
 unfold ItemR
 dsimp only
 rw [h1,e,if_neg (by omega)]
 by_cases k0:k=0
 ·rw [if_pos (by omega),if_pos k0];exact ⟨rfl,rfl,rfl,el,rfl⟩
 ·rw [if_neg (by omega),if_neg k0]
  by_cases k1:k=1
  ·rw [if_pos (by omega),if_pos k1];exact ⟨rfl,rfl,rfl,el,rfl⟩
  ·rw [if_neg (by omega),if_neg k1,if_pos (by omega)];exact ⟨rfl,rfl,rfl,el,rfl⟩
def bytesW (b:List Int):List (Nat × Nat):=b.map fun x=>(x.toNat,8)
theorem bytesW_wd (b:List Int):wdN (bytesW b)=8*b.length:=by
 induction b with
 | nil=>rfl
 | cons x r ih=>rw [bytesW,List.map_cons,wdN,← bytesW,ih,List.length_cons];omega
theorem bytes_steps {bs:List Int}{s most:Nat}{last:Bool}:∀ (b:List Int) (pre post:List (Nat × Nat)) (out:List Int),Puts bs s (pre++bytesW b++post)→AllB b→b≠[]→out.length+b.length≤most→
  Steps bs most (s+wdN pre) (.bytes b.length) last out (s+wdN (pre++bytesW b)) (endM last) last (out++b)
 | [],pre,post,out,h,ha,h0,hm=>absurd rfl h0
 | x :: r,pre,post,out,h,ha,h0,hm=>by
  have hx:=ha x (List.mem_cons_self ..)
  have h1:=(show Puts bs s (pre++(x.toNat,8) :: (bytesW r++post)) by simpa [bytesW] using h).is
  have h2:=(show Puts bs s (pre++(x.toNat,8) :: (bytesW r++post)) by simpa [bytesW] using h).room
  simp only [wdN] at h2
  rw [List.length_cons] at hm
  have e:s+wdN (pre++[(x.toNat,8)])=s+wdN pre+8:=by rw [wdN_append];simp [wdN];omega
  have hi:ItemR bs most (s+wdN pre) (.bytes (r.length+1)) last out 0 (s+wdN (pre++[(x.toNat,8)])) (if r.length+1≤1 then endM last else .bytes r.length) last (out++[x]):=by
   unfold ItemR
   dsimp only
   rw [if_neg (by omega),if_neg (by omega),e,h1]
   exact ⟨rfl,rfl,rfl,rfl,by rw [Int.toNat_of_nonneg hx.1]⟩
  by_cases hr:r=[]
  ·subst hr
   refine Steps.one ?_
   rw [List.length_cons]
   exact hi
  ·have hl:0 < r.length:=by cases r with | nil=>exact absurd rfl hr | cons=>simp
   have ih:=bytes_steps (most:=most) (last:=last) r (pre++[(x.toNat,8)]) post (out++[x]) (by simpa [bytesW] using h) (fun y hy=>ha y (List.mem_cons_of_mem _ hy)) hr (by rw [List.length_append,List.length_singleton];omega)
   rw [if_neg (by omega)] at hi
   refine .step hi ?_
   have e2:pre++bytesW (x :: r)=pre++[(x.toNat,8)]++bytesW r:=by simp [bytesW]
   rw [e2]
   simpa using ih
def storedW (last:Bool)(pad:Nat)(b:List Int):List (Nat × Nat):=[(lastN last,1),(0,2),(0,pad),(b.length,16),(65535 - b.length,16)]++bytesW b
theorem stored_steps {bs:List Int}{s most pad:Nat}{pre post:List (Nat × Nat)}{last l0:Bool}{out b:List Int}(h:Puts bs s (pre++storedW last pad b++post))(hb:AllB b)(hl:b.length≤65535)(hp:pad < 8)(hp8:(s+wdN pre+3+pad) % 8=0)(hm:out.length+b.length≤most):
  Steps bs most (s+wdN pre) .block l0 out (s+wdN (pre++storedW last pad b)) (endM last) last (out++b):=by
 unfold storedW at h ⊢
 have h1:=kind_step (most:=most) (l0:=l0) (out:=out) (show Puts bs s (pre++(lastN last,1) :: (0,2) :: ([(0,pad),(b.length,16),(65535 - b.length,16)]++bytesW b++post)) by simpa using h) (by decide)
 rw [if_pos rfl] at h1
 have x1:=(show Puts bs s ((pre++[(lastN last,1),(0,2),(0,pad)])++(b.length,16) :: ([(65535 - b.length,16)]++bytesW b++post)) by simpa using h).is
 have x2:=(show Puts bs s ((pre++[(lastN last,1),(0,2),(0,pad),(b.length,16)])++(65535 - b.length,16) :: (bytesW b++post)) by simpa using h).is
 have x3:=(show Puts bs s ((pre++[(lastN last,1),(0,2),(0,pad),(b.length,16),(65535 - b.length,16)])++(bytesW b++post)) by simpa using h).room
 have w1:wdN (pre++[(lastN last,1),(0,2),(0,pad)])=wdN pre+3+pad:=by rw [wdN_append];simp only [wdN];omega
 have w2:wdN (pre++[(lastN last,1),(0,2),(0,pad),(b.length,16)])=wdN pre+3+pad+16:=by rw [wdN_append];simp only [wdN];omega
 have w3:wdN (pre++[(lastN last,1),(0,2),(0,pad),(b.length,16),(65535 - b.length,16)])=wdN pre+3+pad+32:=by rw [wdN_append];simp only [wdN];omega
 have w4:wdN (pre++[(lastN last,1),(0,2)])=wdN pre+3:=by rw [wdN_append];rfl
 rw [w1] at x1
 rw [w2] at x2
 rw [w3] at x3
 rw [w4] at h1
 have hu:up8 (s+(wdN pre+3))=s+wdN pre+3+pad:=by unfold up8;omega
 have hi:ItemR bs most (s+(wdN pre+3)) .stored last out 0 (s+(wdN pre+3+pad+32)) (if b.length=0 then endM last else .bytes b.length) last out:=by
  unfold ItemR
  dsimp only
  rw [hu]
  have y1:bitsAt bs (s+wdN pre+3+pad) 16=b.length:=by rw [← x1];congr 1;omega
  have y2:bitsAt bs (s+wdN pre+3+pad+16) 16=65535 - b.length:=by rw [← x2];congr 1;omega
  rw [y1,y2,if_neg (by omega),if_neg (by omega)]
  exact ⟨rfl,by omega,rfl,rfl,rfl⟩
 refine .step h1 (.step hi ?_)
 by_cases hb0:b=[]
 ·subst hb0
  simp only [List.length_nil,if_pos]
  refine (Steps.refl (p:=s+(wdN pre+3+pad+32)) (m:=endM last) (last:=last) (out:=out)).trans ?_
  rw [List.append_nil]
  refine Steps.to .refl rfl ?_
  rw [← w3]
  simp [bytesW]
 ·have hl0:b.length≠0:=fun e=>hb0 (List.eq_nil_of_length_eq_zero e)
  rw [if_neg hl0,← w3]
  have:=bytes_steps (most:=most) (last:=last) b (pre++[(lastN last,1),(0,2),(0,pad),(b.length,16),(65535 - b.length,16)]) post out (by simpa using h) hb hb0 hm
  simpa using this
theorem fixL_ok:CodeOk fixL:=by
 refine ⟨by decide +kernel,fun z hz=>?_,by decide +kernel⟩
 unfold fixL at hz
 simp only [List.mem_append,List.mem_replicate] at hz
 omega
theorem fixD_ok:CodeOk fixD:=by
 refine ⟨by decide +kernel,fun z hz=>?_,by decide +kernel⟩
 unfold fixD at hz
 simp only [List.mem_replicate] at hz
 omega
theorem fixL_at (i : Nat) (h : i < 288) : 0 < fixL.getD i 0 := by
  have hm : fixL.getD i 0 ∈ fixL := by
    have hl : i < fixL.length := by have : fixL.length = 288 := by decide +kernel
                                    omega
    have : fixL.getD i 0 = fixL[i] := by simp [List.getD, hl]
    rw [this]; exact List.getElem_mem hl
  unfold fixL at hm
  simp only [List.mem_append, List.mem_replicate] at hm
  unfold fixL
  omega
theorem fixD_at (i:Nat)(h:i < 32):0 < fixD.getD i 0:=by
 unfold fixD List.getD
 rw [List.getElem?_replicate,if_pos h]
 decide
theorem fixL_len:fixL.length=288:=by decide +kernel
theorem fixL_has (i:Nat)(h:i < 288):HasC fixL (i:Int):=⟨i,rfl,by rw [fixL_len];exact h,fixL_at i h⟩
theorem fixD_has (i:Nat)(h:i < 32):HasC fixD (i:Int):=⟨i,rfl,by unfold fixD;rw [List.length_replicate];exact h,fixD_at i h⟩
theorem toks_steps {bs:List Int}{s most:Nat}{lit dist:List Int}{last:Bool}{ts:List Tk}{ws pre post:List (Nat × Nat)}{out:List Int}(hw:TokWs lit dist ts ws)(hl:CodeOk lit)(hd:CodeOk dist)(hc:HasC lit 256)(h:Puts bs s (pre++(ws++[wordZ lit 256])++post))(hg:good (most:Int) ts out):
  Steps bs most (s+wdN pre) (.sym lit dist) last out (s+wdN (pre++(ws++[wordZ lit 256]))) (endM last) last (putAll ts out):=by
 have h1:=hw.steps (last:=last) hl hd pre ([wordZ lit 256]++post) out (by simpa using h) hg
 have h2:=end_step (most:=most) (dist:=dist) (last:=last) (out:=putAll ts out) (show Puts bs s ((pre++ws)++wordZ lit 256 :: post) by simpa using h) hl hc
 rw [List.append_assoc] at h2
 exact h1.trans (.one h2)
theorem fixed_steps {bs:List Int}{s most:Nat}{last l0:Bool}{ts:List Tk}{ws pre post:List (Nat × Nat)}{out:List Int}(hw:TokWs fixL fixD ts ws)(h:Puts bs s (pre++([(lastN last,1),(1,2)]++(ws++[wordZ fixL 256]))++post))(hg:good (most:Int) ts out):
  Steps bs most (s+wdN pre) .block l0 out (s+wdN (pre++([(lastN last,1),(1,2)]++(ws++[wordZ fixL 256])))) (endM last) last (putAll ts out):=by
 have h1:=kind_step (most:=most) (l0:=l0) (out:=out) (show Puts bs s (pre++(lastN last,1) :: (1,2) :: ((ws++[wordZ fixL 256])++post)) by simpa using h) (by decide)
 rw [if_neg (by decide),if_pos rfl] at h1
 have h2:=toks_steps (most:=most) (last:=last) (out:=out) (pre:=pre++[(lastN last,1),(1,2)]) (post:=post) hw fixL_ok fixD_ok (fixL_has 256 (by decide)) (by simpa using h) hg
 rw [List.append_assoc] at h2
 exact .step h1 h2
theorem head_step {bs:List Int}{s most told:Nat}{lit dist code:List Int}{rs:List (Int × Int)}{last:Bool}{pre post:List (Nat × Nat)}{out:List Int}(h:Puts bs s (pre++headW lit dist code told rs++post))(hc:CodeW code told rs (lit++dist))(hb:headB lit dist=true):
  ItemR bs most (s+wdN pre) .head last out 0 (s+wdN (pre++headW lit dist code told rs)) (.sym lit dist) last out:=by
 unfold ItemR
 exact ⟨lit,dist,0,_,head_backG h hc hb,by rw [if_pos rfl];exact ⟨rfl,rfl,rfl,rfl,rfl⟩⟩
theorem dynamic_steps {bs:List Int}{s most told:Nat}{last l0:Bool}{ts:List Tk}{lit dist code:List Int}{rs:List (Int × Int)}{ws pre post:List (Nat × Nat)}{out:List Int}(hw:TokWs lit dist ts ws)(hl:CodeOk lit)(hd:CodeOk dist)(h256:HasC lit 256)(hc:CodeW code told rs (lit++dist))(hb:headB lit dist=true)
  (h:Puts bs s (pre++([(lastN last,1),(2,2)]++(headW lit dist code told rs++(ws++[wordZ lit 256])))++post)) (hg:good (most:Int) ts out):
  Steps bs most (s+wdN pre) .block l0 out (s+wdN (pre++([(lastN last,1),(2,2)]++(headW lit dist code told rs++(ws++[wordZ lit 256]))))) (endM last) last (putAll ts out):=by
 have h1:=kind_step (most:=most) (l0:=l0) (out:=out) (show Puts bs s (pre++(lastN last,1) :: (2,2) :: (headW lit dist code told rs++(ws++[wordZ lit 256])++post)) by simpa using h) (by decide)
 rw [if_neg (by decide),if_neg (by decide)] at h1
 have h2:=head_step (most:=most) (last:=last) (out:=out) (pre:=pre++[(lastN last,1),(2,2)]) (post:=ws++[wordZ lit 256]++post) (by simpa using h) hc hb
 have h3:=toks_steps (most:=most) (last:=last) (out:=out) (pre:=pre++[(lastN last,1),(2,2)]++headW lit dist code told rs) (post:=post) hw hl hd h256 (by simpa using h) hg
 have e:pre++[(lastN last,1),(2,2)]++headW lit dist code told rs++(ws++[wordZ lit 256])=pre++([(lastN last,1),(2,2)]++(headW lit dist code told rs++(ws++[wordZ lit 256]))):=by simp
 rw [e] at h3
 exact .step h1 (.step h2 h3)
theorem infoR:(Tryz.prog.info? 125).map (fun i=>(i.zero,i.size,i.bytes))=some (some (.agg #[.int .i64 0,.int .i64 0]),2,16):=by kernel_rfl
def rcells (rs:List (Int × Int)):List Value:=rs.flatMap fun p=>[.int .i64 p.1,.int .i64 p.2]
theorem rcells_app (rs:List (Int × Int))(s x:Int):rcells rs++[.int .i64 s,.int .i64 x]=rcells (rs++[(s,x)]):=by simp [rcells]
theorem rcells_at:∀ (rs:List (Int × Int)) (i:Nat),i < rs.length→(rcells rs)[i*2]?=some (.int .i64 (rs.getD i (0,0)).1)∧(rcells rs)[i*2+1]?=some (.int .i64 (rs.getD i (0,0)).2):=by
 intro rs
 induction rs with
 | nil=>intro i hi;simp at hi
 | cons p r ih=>
  intro i hi
  have e:rcells (p :: r) = .int .i64 p.1 :: .int .i64 p.2 :: rcells r:=by simp [rcells]
  rw [e]
  cases i with
  | zero=>exact ⟨rfl,rfl⟩
  | succ i=>
   have hi':i < r.length:=by simpa using hi
   obtain ⟨h1,h2⟩:=ih i hi'
   rw [show (i+1)*2=i*2+1+1 by omega]
   refine ⟨?_,?_⟩
   ·simpa using h1
   ·rw [List.getElem?_cons_succ,List.getElem?_cons_succ];simpa using h2
def OwnR (w:World)(ao:Option Addr)(cap:Nat)(rs:List (Int × Int)):Prop:=w.ownsRow 0 125 2 (.slice ao rs.length cap) rs.length (rcells rs)
theorem OwnR.reads {w:World}{a:Option Addr}{c:Nat}{rs:List (Int × Int)}(h:OwnR w a c rs):RdRn w w.heap.size a rs:=by
 intro i hi
 rcases h.2 with ⟨_,hz⟩ | ⟨g,cc,cur,hv,_⟩
 ·omega
 ·simp at hv
  obtain ⟨rfl,rfl⟩:=hv
  obtain ⟨h1,h2⟩:=rcells_at rs i hi
  have hc1:w.cell? ⟨g,i*2,none⟩=some (.int .i64 (rs.getD i (0,0)).1):=by
   rw [← h1];exact h.cellAt (i*2) (by omega)
  have hc2:w.cell? ⟨g,i*2+1,none⟩=some (.int .i64 (rs.getD i (0,0)).2):=by
   rw [← h2];exact h.cellAt (i*2+1) (by omega)
  exact ⟨g,0,rfl,World.block_lt_of_cell? w _ hc1,by rw [Nat.zero_add];exact hc1,by rw [Nat.zero_add];exact hc2⟩
structure ASt (w:World)(a:Option Addr)(c:Nat)(rs0:List (Int × Int))(w':World)(rs:List (Int × Int))(a':Option Addr)(c':Nat):Prop where
 own:OwnR w' a' c' rs
 kept:Kept (OwnB (.slice a rs0.length c)) w w'
 fresh:∀ k,(Value.slice a' rs.length c').ownBlock=some k→(Value.slice a rs0.length c).ownBlock=some k∨w.heap.size≤k
theorem ASt.app {w wr w2:World}{a a' a2:Option Addr}{c c' c2 len:Nat}{rs0 rs:List (Int × Int)}{s x:Int}{o:Obj}(h:ASt w a c rs0 wr rs a' c')(hlen:len=rs.length)
  (hown:w2.ownsRow 0 125 2 (.slice a2 (len+1) c2) (len+1) (rcells rs++[.int .i64 s,.int .i64 x])) (hgrow:(wr.alloc o).grownBy w2 (Value.slice a' len c').ownBlock)
  (hnew:∀ k,(Value.slice a2 (len+1) c2).ownBlock=some k→(Value.slice a' len c').ownBlock=some k∨wr.heap.size+1≤k):ASt w a c rs0 w2 (rs++[(s,x)]) a2 c2:=by
 subst hlen
 have hl:(rs++[(s,x)]).length=rs.length+1:=by simp
 refine ⟨?_,?_,?_⟩
 ·unfold OwnR
  rw [hl,← rcells_app]
  exact hown
 ·exact (h.kept.alloc o).grown hgrow (fun k hk e=>by
   rcases h.fresh k e with h1 | h1
   ·exact h1
   ·omega)
 ·intro k hk
  rw [hl] at hk
  rcases hnew k hk with h1 | h1
  ·exact h.fresh k h1
  ·right;have:=h.kept.size;omega
theorem ASt.start {w:World}{a:Option Addr}{c:Nat}{rs0:List (Int × Int)}(h:OwnR w a c rs0):ASt w a c rs0 w rs0 a c:=⟨h,Kept.refl _ _,fun k hk => .inl hk⟩
theorem news2 (w:World)(s x:Int):∀ (k:Nat) (u:Value),[Value.int .i64 s,.int .i64 x][k]?=some u→(w.alloc (.cells #[.int .i64 s,.int .i64 x] 125)).cell? ((⟨w.heap.size,0,none⟩:Addr).add k)=some u:=by
 intro k u hk
 rw [addr_add,Nat.zero_add,cell_new k rfl]
 simpa using hk
theorem inBounds_any (a:Option Addr)(c:Nat)(l:List Int)(B:Nat)(w:World)(hr:RdI w B a l)(hm:l.length≤1000000):
  Calls Tryz.prog 170 #[.slice a l.length c] w fun e w'=>e = .returned (.bool (decide (∀ z∈l,0≤z∧z≤15)))∧w=w':=by
 have HR:=Hd hr
 obtain ⟨n,hn⟩:∃ n,n=l.length:=⟨_,rfl⟩
 have HN:=Hd hn
 have hm2:n≤1000000:=by omega
 rw [← hn]
 clear hr hn hm
 go_enter Tryz.func170,Tryz.ntmps170
 go_wp2
 go_loopw [7,4] (fun v7 v4 wr=>∃ j:Nat,v7 = .int .i64 (j:Int)∧j≤n∧Hid ((∀ z∈l,0≤z∧z≤15)↔∀ z∈l.drop j,0≤z∧z≤15)∧w=wr) (fun v7 _ _=>n - (intOf v7).toNat)
 case atStart=>exact ⟨0,rfl,by omega,(by rw [List.drop_zero];exact Iff.rfl),rfl⟩
 case round=>
  obtain ⟨j,rfl,hj,HI,rfl⟩:=hrel
  by_cases hlt:(j:Int) < n
  ·obtain ⟨g,off,rfl,hgl,hc0⟩:=HR.out j (by have:=HN.out;omega)
   have hi:=HI.out
   rw [drop_getDz l j (by have:=HN.out;omega)] at hi
   generalize l.getD j 0=z at hc0 hi
   clear hgl HI
   by_cases hz:0≤z∧z≤15
   ·have HI2:Hid ((∀ z∈l,0≤z∧z≤15)↔∀ z∈l.drop (j+1),0≤z∧z≤15):=hi.trans ⟨fun h y hy=>h y (List.mem_cons_of_mem _ hy),fun h y hy=>by
     rcases List.mem_cons.1 hy with rfl | h'
     ·exact hz
     ·exact h y h'⟩
    have h1:¬ z < 0:=by omega
    have h2:¬ 15 < z:=by omega
    clear hi hz
    go_wp2
    go_roundw
    case rel=>exact ⟨j+1,by go_num,by omega,HI2,trivial⟩
    case measure=>simp [intOf];omega
   ·have hno:¬ ∀ z∈l,0≤z∧z≤15:=fun h=>hz (hi.1 h z List.mem_cons_self)
    have HNo:=Hd (decide_eq_false hno)
    have hc:z < 0∨(¬ z < 0∧15 < z):=by omega
    clear hi hz hno
    rcases hc with h1 | ⟨h1,h2⟩
    all_goals
     go_wp2
     go_ret
     exact ⟨by rw [HNo.out];rfl,rfl⟩
  ·have hyes:∀ z∈l,0≤z∧z≤15:=by
    have hi:=HI.out
    rw [List.drop_of_length_le (by have:=HN.out;omega)] at hi
    exact hi.2 (fun z hz=>by cases hz)
   have HYes:=Hd (decide_eq_true hyes)
   clear hyes
   go_wp2
   go_ret
   exact ⟨by rw [HYes.out];rfl,rfl⟩
def okL (l:List Int):Prop:=l.length≤320∧∀ z∈l,0≤z∧z≤15
theorem take_more (l:List Int)(p e:Nat)(z:Int)(h:l.take e=l.take p++List.replicate (e - p) z)(he:e < l.length)(hpe:p≤e)(hz:l.getD e 0=z):l.take (e+1)=l.take p++List.replicate (e+1 - p) z:=by
 have hg:l[e]=z:=by rw [← hz];simp [List.getD,he]
 rw [List.take_succ_eq_append_getElem he,h,hg,show e+1 - p=(e - p)+1 by omega,List.replicate_succ',List.append_assoc]
theorem WroteP.put {w w1 w2:World}{R:Nat}{v0:Value}{bs bs1:List Int}{s x n:Nat}{ps:List (Nat × Nat)}{ao1:Option Addr}{cap1:Nat}{e:Ending}(h:WroteP w R v0 bs s ps w1 ao1 cap1 bs1)(h2:PutP w1 R (.slice ao1 bs1.length cap1) bs1 (s+wdN ps) x n e w2):
  ∃ ao2 cap2 bs2,e = .returned (.bool true)∧WroteP w R v0 bs s (ps++[(x,n)]) w2 ao2 cap2 bs2:=by
 obtain ⟨hw1,hw2,hw3,hw4⟩:=h
 obtain ⟨ao2,cap2,bs2,rfl,p1,p2,p3,p4⟩:=h2
 refine ⟨ao2,cap2,bs2,rfl,?_,?_,?_,?_⟩
 ·rw [wdN_append]
  simp only [wdN,Nat.add_zero]
  rw [← Nat.add_assoc]
  exact p1
 ·rw [putsN_append]
  simp only [putsN,Nat.zero_mul,Nat.add_zero]
  rw [p2,hw2,Nat.add_mul,Nat.add_assoc,Nat.pow_add,Nat.mul_assoc,Nat.mul_comm (2 ^ wdN _) (2 ^ s)]
 ·refine hw3.transO p3 ?_
  intro j hj e
  rcases e with e | e
  ·exact .inl e
  ·rcases hw4 j e with h | h
   ·exact .inr h
   ·omega
 ·intro k hk'
  rcases p4 k hk' with h | h
  ·exact hw4 k h
  ·have:=hw3.size;omega
theorem WroteP.nil {w:World}{R:Nat}{ao:Option Addr}{cap:Nat}{bs:List Int}{s:Nat}(h:Wtr w R ao cap bs s):WroteP w R (.slice ao bs.length cap) bs s [] w ao cap bs:=
 ⟨h,by simp [putsN],Kept.refl _ _,fun k hk => .inl hk⟩
theorem WroteP.keptNo {w w1 w2:World}{R:Nat}{v0:Value}{bs bs1:List Int}{s:Nat}{ps:List (Nat × Nat)}{ao1:Option Addr}{cap1:Nat}(h:WroteP w R v0 bs s ps w1 ao1 cap1 bs1)(hk:Kept NoB w1 w2):WroteP w R v0 bs s ps w2 ao1 cap1 bs1:=
 ⟨h.1.keptNo hk,h.2.1,h.2.2.1.transO hk (fun i hi h=>h.elim),h.2.2.2⟩
theorem WroteP.app {w w1 w2:World}{R:Nat}{v0:Value}{bs bs1 bs2:List Int}{s:Nat}{ps qs:List (Nat × Nat)}{ao1 ao2:Option Addr}{cap1 cap2:Nat}(h:WroteP w R v0 bs s ps w1 ao1 cap1 bs1)(h2:WroteP w1 R (.slice ao1 bs1.length cap1) bs1 (s+wdN ps) qs w2 ao2 cap2 bs2):WroteP w R v0 bs s (ps++qs) w2 ao2 cap2 bs2:=by
 obtain ⟨hw1,hw2,hw3,hw4⟩:=h
 obtain ⟨p1,p2,p3,p4⟩:=h2
 refine ⟨?_,?_,?_,?_⟩
 ·rw [wdN_append,← Nat.add_assoc]
  exact p1
 ·rw [putsN_append,p2,hw2,Nat.add_mul,Nat.add_assoc,Nat.pow_add,Nat.mul_assoc,Nat.mul_comm (2 ^ wdN _) (2 ^ s)]
 ·refine hw3.transO p3 ?_
  intro j hj e
  rcases e with e | e
  ·exact .inl e
  ·rcases hw4 j e with h | h
   ·exact .inr h
   ·omega
 ·intro k hk'
  rcases p4 k hk' with h | h
  ·exact hw4 k h
  ·have:=hw3.size;omega
def RdRnG (w:World)(S:Nat→Prop)(ao:Option Addr)(rs:List (Int × Int)):Prop:=
 ∀ i,i < rs.length→∃ g off,ao=some ⟨g,off,none⟩∧S g∧w.cell? ⟨g,off+i*2,none⟩=some (.int .i64 (rs.getD i (0,0)).1)∧w.cell? ⟨g,off+i*2+1,none⟩=some (.int .i64 (rs.getD i (0,0)).2)
theorem RdRnG.kept {S T:Nat→Prop}{w w':World}{ao:Option Addr}{rs:List (Int × Int)}(h:RdRnG w S ao rs)(hk:Kept T w w')(hs:∀ k,S k→¬ T k):RdRnG w' S ao rs:=fun i hi=>by
 obtain ⟨g,o,h1,h2,h3,h4⟩:=h i hi
 exact ⟨g,o,h1,h2,(World.cell?_of_block (hk.block _ (World.block_lt_of_cell? w _ h3) (hs g h2))).trans h3,(World.cell?_of_block (hk.block _ (World.block_lt_of_cell? w _ h4) (hs g h2))).trans h4⟩
theorem wdN_leR (code:List Int)(hs:Small 15 code):∀ rs:List (Int × Int),wdN (wordsR code rs)≤22*rs.length
 | []=>by simp [wordsR,wdN]
 | y :: r=>by
  have ih:=wdN_leR code hs r
  rw [wordsR_cons,wdN,wdN,List.length_cons]
  have h1:=spanB_le y.1
  have h2:(wordZ code y.1).2≤15:=by
   unfold wordZ
   by_cases h:y.1.toNat < code.length
   ·have:=hs.getD y.1.toNat h
    omega
   ·simp [List.getD,List.getElem?_eq_none (Nat.le_of_not_lt h)]
  omega
theorem spanM_lt (s x:Int)(h:0≤x∧x≤spanM s):x.toNat < 2 ^ spanB s:=by
 unfold spanM at h
 unfold spanB
 split at h
 ·rename_i e;rw [if_pos e];omega
 ·rename_i e;rw [if_neg e]
  split at h
  ·rename_i e;rw [if_pos e];omega
  ·rename_i e;rw [if_neg e]
   split at h
   ·rename_i e;rw [if_pos e];omega
   ·rename_i e;rw [if_neg e];omega
theorem writeRuns_any (code:List Int)(a:Option Addr)(c:Nat)(rs:List (Int × Int))(ra:Option Addr)(rc:Nat)(S:Nat→Prop)(R:Nat)(ao:Option Addr)(cap:Nat)(bs:List Int)(s:Nat)(w:World)
  (hx:RdG w S a code) (hy:RdRnG w S ra rs) (hw:Wtr w R ao cap bs s) (hSR:¬ S R) (hSo:∀ k,(Value.slice ao bs.length cap).ownBlock=some k→¬ S k) (hs:Small 15 code) (hl:code.length≤320) (hok:refS code=0)
  (hrs:∀ y∈rs,HasC code y.1∧0≤y.2∧y.2≤spanM y.1) (hrl:rs.length≤1000) (hss:s≤1100000):
  Calls Tryz.prog 150 #[.pointer (some ⟨R,0,none⟩),.slice a code.length c,.slice ra rs.length rc] w fun e w'=>∃ ao' cap' bs',e = .returned (.int .i64 0)∧WroteP w R (.slice ao bs.length cap) bs s (wordsR code rs) w' ao' cap' bs':=by
 have HCd:=Hd (codes_calls a c _ code w hx.room hs hl hok)
 have HX:=Hd hx;have HY:=Hd hy;have HW:=Hd hw;have HSo:=Hd hSo;have HS:=Hd hs;have HRs:=Hd hrs;have HOk:=Hd hok;have HSR:=Hd hSR
 obtain ⟨n,hn⟩:∃ n,n=code.length:=⟨_,rfl⟩
 have HN:=Hd hn
 have hn320:n≤320:=by omega
 obtain ⟨m,hm⟩:∃ m,m=rs.length:=⟨_,rfl⟩
 have HM:=Hd hm
 have hm1000:m≤1000:=by omega
 rw [← hn] at HCd
 rw [← hn,← hm]
 clear hx hy hw hSo hs hrs hok hn hm hl hrl hSR
 go_enter Tryz.func150,Tryz.ntmps150
 go_wp2_with fail
 refine HCd.out.mono ?_
 intro e w2 hp
 obtain ⟨a4,c4,rfl,ho4,hr4,hk⟩:=codes_read2 hp
 have hne4:∀ g,a4=some ⟨g,0,none⟩→g≠R∧(∀ k,(Value.slice ao bs.length cap).ownBlock=some k→k≠g):=by
  rintro g rfl
  have h1:=row_ne ho4 (hk.obj HW.out.1 (fun h=>h)) (by decide) g rfl
  refine ⟨h1,fun k hk' e=>?_⟩
  subst e
  rcases ho4.2 with ⟨hv,_⟩ | ⟨g',cc,cur,hv,_,hgg,_⟩
  ·simp at hv
  ·simp at hv
   obtain ⟨rfl,rfl⟩:=hv
   exact row_ne (hk.row HW.out.2.1 (fun _ _ h=>h)) hgg (by decide) _ hk' rfl
 have hcl:(codesL code).length=n:=by unfold codesL;rw [codesP_len];exact HN.out.symm
 rw [hcl] at hr4 ⊢
 have HNe:=Hd hne4
 have HR4:=Hd hr4;have HK2:=Hd hk
 clear hp hr4 hk hcl HCd ho4 hne4
 go_wp2
 go_loopw [23,10,11,12] (fun v23 _ _ _ wr=>∃ (i:Nat) (ao':Option Addr) (cap':Nat) (bs':List Int),v23 = .int .i64 (i:Int)∧i≤m∧Hid (WroteP w2 R (.slice ao bs.length cap) bs s (wordsR code (rs.take i)) wr ao' cap' bs')) (fun v23 _ _ _ _=>m - (intOf v23).toNat)
 case atStart=>exact ⟨0,ao,cap,bs,rfl,by omega,Hd (WroteP.nil (HW.out.keptNo HK2.out))⟩
 case round=>
  obtain ⟨i,ao',cap',bs',rfl,him,HWr⟩:=hrel
  by_cases hlt2:(i:Int) < m
  ·have hil:i < rs.length:=by have:=HM.out;omega
   have hdis:∀ j,S j→¬ (OrB (OneB R) (OwnB (.slice ao bs.length cap))) j:=by
    intro j hj e
    rcases e with e | e
    ·unfold OneB at e;exact HSR.out (e ▸ hj)
    ·exact HSo.out j e hj
   have hw3:=HWr.out.2.2.1
   obtain ⟨g1,o1,rfl,_,x0,x0'⟩:=((HY.out.kept HK2.out (fun _ _ h=>h)).kept hw3 hdis) i hil
   have htk:rs.take (i+1)=rs.take i++[rs.getD i (0,0)]:=by
    rw [List.take_succ_eq_append_getElem hil];simp [List.getD,hil]
   have hmem:rs.getD i (0,0)∈rs:=by
    have:rs.getD i (0,0)=rs[i]:=by simp [List.getD,hil]
    rw [this];exact List.getElem_mem hil
   obtain ⟨⟨k,hzk,hkl,hk0⟩,hxx⟩:=HRs.out _ hmem
   obtain ⟨y,hy⟩:∃ y,y=rs.getD i (0,0):=⟨_,rfl⟩
   rw [← hy] at x0 x0' htk hzk hxx
   obtain ⟨sy,x⟩:=y
   simp only at x0 x0' hzk hxx
   subst hzk
   have hxl:=spanM_lt _ _ hxx
   obtain ⟨xn,rfl⟩:∃ xn:Nat,x=(xn:Int):=⟨x.toNat,by omega⟩
   rw [Int.toNat_natCast] at hxl
   obtain ⟨b,hb⟩:∃ b,b=spanB (k:Int):=⟨_,rfl⟩
   have hb7:b≤7:=by rw [hb];exact spanB_le _
   have hx128:xn < 128:=Nat.lt_of_lt_of_le (hb ▸ hxl) (Nat.pow_le_pow_right (n:=2) (by decide) hb7)
   obtain ⟨g2,o2,rfl,_,x1⟩:=((HX.out.kept HK2.out (fun _ _ h=>h)).kept hw3 hdis) k hkl
   obtain ⟨g4,rfl,y0⟩:=HR4.out k (by have:=HN.out;omega)
   rw [codesL_get _ _ hkl] at y0
   obtain ⟨hg4R,hg4o⟩:=HNe.out g4 rfl
   have y1:=(World.cell?_of_block (hw3.block _ (World.block_lt_of_cell? w2 _ y0) (fun e=>by
    rcases e with e | e
    ·exact hg4R e
    ·exact hg4o _ e rfl))).trans y0
   have hbk:=HS.out.getD k hkl
   obtain ⟨lk,hlk⟩:∃ lk:Nat,code.getD k 0=(lk:Int):=⟨(code.getD k 0).toNat,by omega⟩
   have hcb:=codeAt_bd code (by rw [← HN.out];exact hn320) HS.out k hkl
   obtain ⟨ck,hck⟩:∃ ck:Nat,codeAt code k=(ck:Int):=⟨(codeAt code k).toNat,by omega⟩
   have hword:wordZ code (k:Int)=(revN lk ck,lk):=by
    unfold wordZ;rw [Int.toNat_natCast,hlk,hck,Int.toNat_natCast,Int.toNat_natCast]
   have hwd:wdN (wordsR code (rs.take i))≤22*i:=by
    have h1:=wdN_leR code HS.out (rs.take i)
    rw [List.length_take] at h1
    have:min i rs.length≤i:=Nat.min_le_left _ _
    omega
   rw [hlk] at x1 hbk hk0
   rw [hck] at y1 hcb
   have hcall:∀ W,Kept NoB wr W→Calls Tryz.prog 101 #[.pointer (some ⟨R,0,none⟩),.int .u32 (ck:Int),.int .i64 (lk:Int)] W fun e w'=>e = .returned (.bool true)∧∃ ao2 cap2 bs2,WroteP w2 R (.slice ao bs.length cap) bs s (wordsR code (rs.take i)++[wordZ code (k:Int)]) w' ao2 cap2 bs2∧Kept (OrB (OneB R) (OwnB (.slice ao' bs'.length cap'))) W w':=by
    intro W hk
    have hW:=HWr.out.keptNo hk
    have hcl:=code_calls W R ao' cap' bs' _ ck lk hW.1 (by omega) (by omega) (by omega) (by omega)
    refine hcl.mono ?_
    intro e w' hp
    have hp2:=hp
    obtain ⟨_,_,_,_,_,_,hkk,_⟩:=hp2
    obtain ⟨ao2,cap2,bs2,rfl,h⟩:=hW.put hp
    exact ⟨rfl,ao2,cap2,bs2,by rw [hword];exact h,hkk⟩
   have hRlt:=obj_lt HWr.out.1.1
   have hAlt:∀ k,(Value.slice ao' bs'.length cap').ownBlock=some k→k < wr.heap.size:=own_lt HWr.out.1.2.1
   have HCall:=Hd hcall
   have kn:(k:Int) < n:=by have:=HN.out;omega
   have HXl:=Hd hxl;have HB:=Hd hb;have HTk:=Hd htk;have HWd:=Hd hwd
   have hlk15:lk≤15:=by omega
   have hword2:(wordZ code (k:Int)).2=lk:=by rw [hword]
   have HWord:=Hd hword2
   clear hcall hword hwd hw3 hck hlk hg4R hg4o y0 hdis hmem hy htk hxx hxl hb HWr hword2
   obtain ⟨H,hH⟩:∃ H,H=wr.heap.size:=⟨_,rfl⟩
   have hkA:Kept NoB wr (wr.alloc (.cells #[.int .i64 (k:Int),.int .i64 (xn:Int)] 125)):=(Kept.refl _ _).alloc _
   have hc0:(wr.alloc (.cells #[.int .i64 (k:Int),.int .i64 (xn:Int)] 125)).cell? ⟨H,0,none⟩=some (.int .i64 (k:Int)):=by rw [hH];exact cell_new 0 rfl
   have hc1:(wr.alloc (.cells #[.int .i64 (k:Int),.int .i64 (xn:Int)] 125)).cell? ⟨H,1,none⟩=some (.int .i64 (xn:Int)):=by rw [hH];exact cell_new 1 rfl
   have x1':∀ W,Kept NoB wr W→W.cell? ⟨g2,o2+k,none⟩=some (.int .i64 (lk:Int)):=fun W h=>h.cell x1
   have y1':∀ W,Kept NoB wr W→W.cell? ⟨g4,k,none⟩=some (.int .u32 (ck:Int)):=fun W h=>h.cell y1
   go_upto_region 7 with fail
   rw [← hH]
   obtain ⟨w3,hw3⟩:∃ w3,w3=wr.alloc (.cells #[.int .i64 (k:Int),.int .i64 (xn:Int)] 125):=⟨_,rfl⟩
   rw [← hw3] at hc0 hc1 hkA ⊢
   have HkA:=Hd hkA
   have x2:∀ W,Kept NoB w3 W→W.cell? ⟨g2,o2+k,none⟩=some (.int .i64 (lk:Int)):=fun W h=>x1' W (HkA.out.trans h)
   have y2:∀ W,Kept NoB w3 W→W.cell? ⟨g4,k,none⟩=some (.int .u32 (ck:Int)):=fun W h=>y1' W (HkA.out.trans h)
   have c2:∀ W,Kept NoB w3 W→W.cell? ⟨H,0,none⟩=some (.int .i64 (k:Int)):=fun W h=>h.cell hc0
   have HC1:Hid (∀ W,Kept NoB w3 W→W.cell? ⟨H,1,none⟩=some (.int .i64 (xn:Int))):=Hd (fun W h=>h.cell hc1)
   have HCl:Hid (∀ W,Kept NoB w3 W→Calls Tryz.prog 101 #[.pointer (some ⟨R,0,none⟩),.int .u32 (ck:Int),.int .i64 (lk:Int)] W fun e w'=>e = .returned (.bool true)∧∃ ao2 cap2 bs2,WroteP w2 R (.slice ao bs.length cap) bs s (wordsR code (rs.take i)++[wordZ code (k:Int)]) w' ao2 cap2 bs2∧Hid (w'.cell? ⟨H,1,none⟩=some (.int .i64 (xn:Int)))):=Hd (fun W h=>by
    have hH1:=HC1.out W h
    refine (HCall.out W (HkA.out.trans h)).mono ?_
    rintro e w' ⟨rfl,ao2,cap2,bs2,h1,h2⟩
    refine ⟨rfl,ao2,cap2,bs2,h1,(World.cell?_of_block (h2.block _ (World.block_lt_of_cell? W _ hH1) (fun e=>?_))).trans hH1⟩
    rcases e with e | e
    ·unfold OneB at e;have e:H=R:=e;omega
    ·have:=hAlt H e;omega)
   have hk0:=Kept.refl NoB w3
   clear hkA hw3 x1 y1 x1' y1' hc1 hH
   go_wp2_with fail
   with_reducible refine (span_any (k:Int) _).mono ?_
   rintro e w4 ⟨rfl,rfl⟩
   rw [← HB.out]
   go_upto_region 8 with fail
   go_region_with (go_at_call 101;((with_reducible refine (HCl.out _ ?_).mono ?_);(exact ((Kept.refl NoB w3).drewN _));rintro e wn ⟨rfl,ao2,cap2,bs2,hwn,hcn⟩;have HWn:=Hd hwn;have HCn:=Hd hcn;clear hwn hcn))
   all_goals
    have cx:=HCn.out.out
    have u1:IntKind.u32.wrap (xn:Int)=(xn:Int):=IntWalk.u32_in _ (by omega)
    have hput:=put_any wn R ao2 cap2 bs2 _ xn b HWn.out.1 (by omega) (by omega) (by rw [wdN_append];have:=HWd.out;have:=HWord.out;simp only [wdN];omega)
    rw [Nat.mod_eq_of_lt (HB.out ▸ HXl.out)] at hput
    have HPut:=Hd hput
    clear hput
    go_wp2_with fail
    with_reducible refine HPut.out.mono ?_
    intro e w7 hp7
    obtain ⟨ao7,cap7,bs7,rfl,hw7⟩:=HWn.out.put hp7
    have hw8:WroteP w2 R (.slice ao bs.length cap) bs s (wordsR code (rs.take (i+1))) w7 ao7 cap7 bs7:=by
     rw [HTk.out,wordsR_snoc]
     have e:(wordZ code (k:Int),())=(wordZ code (k:Int),()):=rfl
     simpa [HB.out] using hw7
    have HW8:=Hd hw8
    clear hp7 hw7 hw8 HPut cx
    go_wp2
    go_roundw
    case rel=>exact ⟨i+1,ao7,cap7,bs7,by go_num,by omega,HW8⟩
    case measure=>simp [intOf];omega
  ·have hmi:i=m:=by omega
   subst hmi
   have hF:WroteP w R (.slice ao bs.length cap) bs s (wordsR code rs) wr ao' cap' bs':=by
    obtain ⟨h1,h2,h3,h4⟩:=HWr.out
    rw [List.take_of_length_le (by rw [← HM.out];exact Nat.le_refl _)] at h1 h2
    exact ⟨h1,h2,(HK2.out.mono (fun _ _ h=>h.elim)).trans h3,fun k hk=>by
     rcases h4 k hk with h | h
     ·exact .inl h
     ·have:=HK2.out.size;exact .inr (by omega)⟩
   have HF:=Hd hF
   clear hF
   go_wp2
   go_ret
   exact ⟨rfl,ao',cap',bs',HF.out⟩
theorem not32 (x:Nat)(h:x < 4294967296):bits .xor .u32 IntKind.u32.max (x:Int)=((4294967295 - x:Nat):Int):=by
 show IntKind.u32.wrap ((BitVec.ofInt 32 IntKind.u32.max ^^^ BitVec.ofInt 32 (x:Int)).toNat:Int)=_
 have h1:(BitVec.ofInt 32 (x:Int)).toNat=x:=by rw [BitVec.ofInt_natCast,BitVec.toNat_ofNat];exact Nat.mod_eq_of_lt (by omega)
 have e:BitVec.ofInt 32 IntKind.u32.max=BitVec.allOnes 32:=by decide
 rw [e,← BitVec.not_def,BitVec.toNat_not,h1,IntKind.wrap_u32']
 omega
theorem WroteP.align {w w1 w2:World}{R:Nat}{v0:Value}{bs bs1:List Int}{s:Nat}{ps:List (Nat × Nat)}{ao1:Option Addr}{cap1:Nat}(h:WroteP w R v0 bs s ps w1 ao1 cap1 bs1)(hw:Wtr w2 R ao1 cap1 bs1 (up8 (s+wdN ps)))(hk:Kept (OneB R) w1 w2):
  WroteP w R v0 bs s (ps++[(0,up8 (s+wdN ps) - (s+wdN ps))]) w2 ao1 cap1 bs1:=by
 obtain ⟨h1,h2,h3,h4⟩:=h
 have hu:s+wdN ps≤up8 (s+wdN ps):=by unfold up8;omega
 refine ⟨?_,?_,h3.transO hk (fun i _ e => .inl e),h4⟩
 ·rw [wdN_append]
  simp only [wdN,Nat.add_zero]
  rw [show s+(wdN ps+(up8 (s+wdN ps) - (s+wdN ps)))=up8 (s+wdN ps) by omega]
  exact hw
 ·rw [putsN_append,h2]
  simp [putsN]
theorem WroteP.size {w w1:World}{R:Nat}{v0:Value}{bs bs1:List Int}{s:Nat}{ps:List (Nat × Nat)}{ao1:Option Addr}{cap1:Nat}(h:WroteP w R v0 bs s ps w1 ao1 cap1 bs1):Wtr w1 R ao1 cap1 bs1 (s+wdN ps):=h.1
theorem putType_any (w:World)(R:Nat)(ao:Option Addr)(cap:Nat)(bs:List Int)(s k:Nat)(last:Bool)(h:Wtr w R ao cap bs s)(hk:k < 4)(hs:s≤800000000000):
  Calls Tryz.prog 60 #[.pointer (some ⟨R,0,none⟩),.int .u32 (k:Int),.bool last] w fun e w'=>∃ ao' cap' bs',e = .returned (.tuple #[])∧WroteP w R (.slice ao bs.length cap) bs s [(lastN last,1),(k,2)] w' ao' cap' bs':=by
 have hl:=lastN_lt last
 obtain ⟨b,hb⟩:∃ b,b=lastN last:=⟨_,rfl⟩
 have HP1:=put_any w R ao cap bs s b 1 h (by omega) (by decide) (by omega)
 rw [show b % 2 ^ 1=b by omega] at HP1
 have HP:=Hd HP1
 have H0:=Hd (WroteP.nil h)
 have HB:=Hd hb
 rw [← hb]
 clear h HP1 hl
 have hgo:∀ e w1,PutP w R (.slice ao bs.length cap) bs s b 1 e w1→∃ ao2 cap2 bs2,e = .returned (.bool true)∧WroteP w R (.slice ao bs.length cap) bs s ([]++[(b,1)]) w1 ao2 cap2 bs2:=fun e w1 hp=>H0.out.put (by simpa [wdN] using hp)
 have HGo:=Hd hgo
 clear hgo
 cases last with
 | false=>
  have hb0:b=0:=hb
  subst hb0
  clear hb
  go_enter Tryz.func60,Tryz.ntmps60
  go_wp2_with fail
  refine HP.out.mono ?_
  intro e w1 hp
  obtain ⟨a2,c2,b2,rfl,hW⟩:=HGo.out e w1 hp
  have HP2:=put_any w1 R a2 c2 b2 _ k 2 hW.size (by omega) (by decide) (by simp only [List.nil_append,wdN];omega)
  rw [show k % 2 ^ 2=k by omega] at HP2
  have HP2:=Hd HP2;have HW:=Hd hW
  clear hW hp
  go_wp2_with fail
  refine HP2.out.mono ?_
  intro e w2 hp2
  obtain ⟨a3,c3,b3,rfl,hW3⟩:=HW.out.put hp2
  have HW3:=Hd hW3
  clear hW3 hp2
  go_wp2
  refine bodyPost_end (results_none rfl _ _ _) rfl ?_
  exact ⟨a3,c3,b3,rfl,HW3.out⟩
 | true=>
  have hb1:b=1:=hb
  subst hb1
  clear hb
  go_enter Tryz.func60,Tryz.ntmps60
  go_wp2_with fail
  refine HP.out.mono ?_
  intro e w1 hp
  obtain ⟨a2,c2,b2,rfl,hW⟩:=HGo.out e w1 hp
  have HP2:=put_any w1 R a2 c2 b2 _ k 2 hW.size (by omega) (by decide) (by simp only [List.nil_append,wdN];omega)
  rw [show k % 2 ^ 2=k by omega] at HP2
  have HP2:=Hd HP2;have HW:=Hd hW
  clear hW hp
  go_wp2_with fail
  refine HP2.out.mono ?_
  intro e w2 hp2
  obtain ⟨a3,c3,b3,rfl,hW3⟩:=HW.out.put hp2
  have HW3:=Hd hW3
  clear hW3 hp2
  go_wp2
  refine bodyPost_end (results_none rfl _ _ _) rfl ?_
  exact ⟨a3,c3,b3,rfl,HW3.out⟩
theorem bytesW_snoc (b:List Int)(j:Nat)(h:j < b.length)(z:Nat)(hz:b.getD j 0=(z:Int)):bytesW (b.take (j+1))=bytesW (b.take j)++[(z,8)]:=by
 unfold bytesW
 rw [List.take_add_one,List.getElem?_eq_getElem h]
 simp only [List.getD,List.getElem?_eq_getElem h,Option.getD_some] at hz
 simp [hz]
theorem stored_yes (w:World)(R:Nat)(ao:Option Addr)(cap:Nat)(bs:List Int)(s:Nat)(last:Bool)(ba:Option Addr)(bc:Nat)(b:List Int)(h:Wtr w R ao cap bs s)(hs:s≤700000000000)(hr:Reads w ba b)(hb:AllB b)(hl:b.length≤65535)
  (hsep:∀ a,ba=some a→a.block≠R∧(Value.slice ao bs.length cap).ownBlock≠some a.block):
  Calls Tryz.prog 50 #[.pointer (some ⟨R,0,none⟩),.slice ba b.length bc,.bool last] w fun e w'=>∃ ao' cap' bs',e = .returned (.int .i64 0)∧WroteP w R (.slice ao bs.length cap) bs s (storedW last (up8 (s+3) - (s+3)) b) w' ao' cap' bs':=by
 have HT:=Hd (putType_any w R ao cap bs s 0 last h (by decide) (by omega))
 have HRd:Hid (∀ W,Kept (OrB (OneB R) (OwnB (.slice ao bs.length cap))) w W→Reads W ba b):=Hd fun W hk=>hr.kept hk (fun a ha e=>by
  rcases e with e | e
  ·exact (hsep a ha).1 e
  ·exact (hsep a ha).2 e)
 have HBs:Hid (∀ j,j < b.length→∃ (g off z:Nat),ba=some ⟨g,off,none⟩∧b.getD j 0=(z:Int)∧z < 256):=Hd fun j hj=>by
  obtain ⟨g,off,hba,_,_⟩:=hr.at (by omega)
  have:=AllB.getD hb j
  exact ⟨g,off,(b.getD j 0).toNat,hba,by omega,by omega⟩
 obtain ⟨L,hL⟩:∃ L,L=b.length:=⟨_,rfl⟩
 have HL:=Hd hL
 have hLl:L≤65535:=by rw [hL];exact hl
 have hw32:IntKind.u32.wrap (L:Int)=(L:Int):=IntWalk.u32_in _ (by omega)
 obtain ⟨Z,hZ⟩:∃ Z,Z=4294967295 - L:=⟨_,rfl⟩
 have hx1:bits .xor .u32 IntKind.u32.max (L:Int)=(Z:Int):=by rw [hZ];exact not32 L (by omega)
 have hx2:bits .xor .u32 (if IntKind.u32.signed=true then -1 else IntKind.u32.max) (L:Int)=(Z:Int):=hx1
 have hZb:Z < 4294967296:=by omega
 have hZ16:Z % 2 ^ 16=65535 - L:=by omega
 have HZ16:=Hd hZ16
 rw [← hL]
 clear h hr hb hl hsep hL hZ hZ16
 go_enter Tryz.func50,Tryz.ntmps50
 go_wp2_with fail
 refine HT.out.mono ?_
 rintro e w1 ⟨a1,c1,b1,rfl,hW1⟩
 have HA:=Hd (walign_any w1 R a1 c1 b1 _ hW1.size (by simp only [wdN];omega))
 have HW1:=Hd hW1
 clear hW1 HT
 go_wp2_with fail
 refine HA.out.mono ?_
 rintro e w2 ⟨rfl,hw2,hk2⟩
 have hW2:=HW1.out.align hw2 hk2
 have hsz:=hW2.size
 have hup:up8 (s+3) - (s+3)≤7:=by unfold up8;omega
 have HP3:=put_any w2 R a1 c1 b1 _ L 16 hsz (by omega) (by decide) (by simp only [wdN,wdN_append,Nat.add_zero];unfold up8;omega)
 rw [show L % 2 ^ 16=L by omega] at HP3
 have HP3:=Hd HP3;have HW2:=Hd hW2
 clear hw2 hk2 hW2 hsz HA
 go_wp2_with fail
 refine HP3.out.mono ?_
 intro e w3 hp3
 obtain ⟨a3,c3,b3,rfl,hW3⟩:=HW2.out.put hp3
 have hsz:=hW3.size
 have HP4:=put_any w3 R a3 c3 b3 _ Z 16 hsz hZb (by decide) (by simp only [wdN,wdN_append,Nat.add_zero];unfold up8;omega)
 rw [HZ16.out] at HP4
 have HP4:=Hd HP4;have HW3:=Hd hW3
 clear hp3 hW3 hsz HP3
 go_wp2_with fail
 refine HP4.out.mono ?_
 intro e w4 hp4
 obtain ⟨a4,c4,b4,rfl,hW4⟩:=HW3.out.put hp4
 have HW4:=Hd hW4
 clear hp4 hW4 HP4
 go_wp2_with fail
 go_loopw [9,30] (fun _x i wr=>∃ (j:Nat) (ao':Option Addr) (cap':Nat) (bs':List Int),j≤L∧i = .int .i64 (j:Int)∧Hid (WroteP w R (.slice ao bs.length cap) bs s ([(lastN last,1),(0,2),(0,up8 (s+3) - (s+3)),(L,16),(65535 - L,16)]++bytesW (b.take j)) wr ao' cap' bs')) (fun _ i _=>L - (intOf i).toNat)
 case atStart=>exact ⟨0,a4,c4,b4,by omega,rfl,Hd (by simpa [bytesW,wdN] using HW4.out)⟩
 case round=>
  obtain ⟨j,ao',cap',bs',hj,rfl,HW⟩:=hrel
  by_cases hlt:(j:Int) < (L:Int)
  ·obtain ⟨g,off,z,rfl,hz,hz256⟩:=HBs.out j (by have:=HL.out;omega)
   have hc:=(HRd.out wr HW.out.2.2.1).2 _ rfl j (by have:=HL.out;omega)
   rw [hz,addr_add] at hc
   have HSn:=Hd (bytesW_snoc b j (by have:=HL.out;omega) z hz)
   have hwz:IntKind.u32.wrap (z:Int)=(z:Int):=IntWalk.u32_in _ (by omega)
   have hbw:=bytesW_wd (b.take j)
   have hbl:(b.take j).length≤65535:=by rw [List.length_take];omega
   have HP:=put_any wr R ao' cap' bs' _ z 8 HW.out.size (by omega) (by decide) (by rw [wdN_append];simp only [wdN,Nat.add_zero];omega)
   rw [show z % 2 ^ 8=z by omega] at HP
   have HP:=Hd HP
   clear hz hbw hbl
   go_wp2_with fail
   refine HP.out.mono ?_
   intro e w5 hp5
   obtain ⟨a5,c5,b5,rfl,hW5⟩:=HW.out.put hp5
   rw [List.append_assoc,← HSn.out] at hW5
   have HW5:=Hd hW5
   clear hW5 hp5 HP hc
   go_wp2
   go_roundw
   case rel=>exact ⟨j+1,a5,c5,b5,by omega,by go_num,HW5⟩
   case measure=>simp [intOf];omega
  ·obtain rfl:j=L:=by omega
   go_wp2
   go_ret
   refine ⟨rfl,ao',cap',bs',?_⟩
   have h:=HW.out
   rw [List.take_of_length_le (by rw [← HL.out];exact Nat.le_refl _)] at h
   unfold storedW
   rw [← HL.out]
   exact h
end Go.Proofs.YtfmjfgmbjdhogaaGreatDoor
