import Derived.Test.YtfmjfgmbjdhogaaGreatDoorMb3
import Derived.Lib.SlBytesConst
import Derived.Laws.StructEq
import Derived.ChangeKeysEq
import Derived.WalkKit
set_option linter.unusedVariables false
set_option linter.unusedSimpArgs false
set_option maxRecDepth 20000
set_option maxHeartbeats 8000000
namespace Go.Proofs.YtfmjfgmbjdhogaaGreatDoor
open Go.RowKit
theorem wpList_by_none {w:World}{ops:Array Oper}{rest:List Oper}{o:Oper}{act:Act}{Q:Exit→Act→World→Prop}(hgd:o.guard=none)(s x:Operand)
  (ho:o.op = .call { callee := .builtin .append,args:=#[s,x],argTypes:=#[22,22] })
  {w0:World} {a:Option Addr} {l c:Nat} {L:List UInt8} (hS:BySt w0 w a l c L) (hs:act.eval s = .slice a l c) (hx:act.eval x = .slice none 0 0)
  (h:wpList Tryz.prog ops Q rest (act.put o.dst (.slice a l c)) w):wpList Tryz.prog ops Q (o :: rest) act w:=by
 obtain ⟨i,hi,hz,hsz,hby⟩:=info_parts info5
 refine wpList_plain hgd fun _ hK=>?_
 have hr:=run_append_owned_none (P:=Tryz.prog) (w:=w) 0 22 o.type 5 i 1 Tryz.underlying22 hi (.slice a l c) l (bc L) hS.own
 unfold Oper.wp execOp
 simp only [ho,resolve,invoke,builtin,Sem.run_bind,Sem.run_pure,Result.andThen_ok,List.map_toArray,List.map_cons,List.map_nil,hs,hx,hr]
 exact hK _ _ h
theorem wpList_by_one {w:World}{ops:Array Oper}{rest:List Oper}{o:Oper}{act:Act}{Q:Exit→Act→World→Prop}(hgd:o.guard=none)(s x:Operand)
  (ho:o.op = .call { callee := .builtin .append,args:=#[s,x],argTypes:=#[22,22] })
  {w0:World} {a:Option Addr} {l c:Nat} {L:List UInt8} (hS:BySt w0 w a l c L) (hs:act.eval s = .slice a l c) (b:UInt8) (z:Int) (hz:z=(b.toNat:Int)) (hx:act.eval x = .slice (some ⟨w.heap.size,0,none⟩) 1 1) (hn:l+1≤100000000)
  (h:∀ a2 c2 w',BySt w0 w' a2 (l+1) c2 (L++[b])→wpList Tryz.prog ops Q rest (act.put o.dst (.slice a2 (l+1) c2)) w'):wpList Tryz.prog ops Q (o :: rest) act (w.alloc (.cells #[.int .u8 z] 5)):=
 wpList_by_row hgd s x ho (hS.on ((Kept.refl _ w).alloc _)) hs ⟨w.heap.size,0,none⟩ 1 1 [b] rfl hx (lit_reads (t:=5) (fr:=(0,0)) (cs:=#[.int .u8 z]) _ (heap_alloc_new _ _) (by rw [hz];rfl)) hn h
theorem isbyte_yes (n:Nat)(w:World)(h:n < 256):Calls Tryz.prog 111 #[.int .i64 n] w fun e w'=>e = .returned (.bool true)∧w'=w:=by
 have h2:decide ((n:Int)≤255)=true:=decide_eq_true (by omega)
 have h3:decide (0≤(n:Int))=true:=decide_eq_true (by omega)
 go_enter Tryz.func111,Tryz.ntmps111
 go_wp2
 go_ret
 exact ⟨rfl,rfl⟩
theorem isbyte_no (w:World):Calls Tryz.prog 111 #[.int .i64 256] w fun e w'=>e = .returned (.bool false)∧w'=w:=by
 go_enter Tryz.func111,Tryz.ntmps111
 go_wp2
 go_ret
 exact ⟨rfl,rfl⟩
theorem oktext_yes (L:List UInt8)(w:World)(h0:0 ∉ L)(hl:L.length≤1000):Calls Tryz.prog 110 #[.string (strB L)] w fun e w'=>e = .returned (.bool true)∧Kept NoB w w':=by
 obtain ⟨cap,w1,hc,ho,hk⟩:=conv_mark w (nb L) (by rw [nb_len];omega) (nb_all L)
 have hi:=ixb_any _ _ cap (nb L) w1 rfl (nb_all L) ho.reads
 rw [ixZ_none h0] at hi
 rw [nb_len] at hi hc
 rw [nb_strG] at hc
 have hs:=strB_size L
 obtain ⟨s,hse⟩:∃ s,s=strB L:=⟨_,rfl⟩
 rw [← hse] at hc hs ⊢
 obtain ⟨n,hn⟩:∃ n,n=L.length:=⟨_,rfl⟩
 rw [← hn] at hc hs hi hl
 have HI:=Hd hi;have HK:=Hd hk
 clear hi hk ho hse hn
 go_enter Tryz.func110,Tryz.ntmps110
 go_wp2_with fail
 refine HI.out.mono ?_
 rintro e w2 ⟨rfl,rfl⟩
 go_wp2
 go_ret
 exact ⟨rfl,HK.out⟩
theorem leB_take (k n:Nat):(leB (k+1) n)=leB k n++[UInt8.ofNat (n / 256 ^ k % 256)]:=leB_snoc k n
theorem appnum_any (w0 w:World)(a:Option Addr)(l c:Nat)(L:List UInt8)(n k:Nat)(z:Int)(hz:z=(k:Int))(hS:BySt w0 w a l c L)(hn:n≤9223372036854775807)(hk:k≤8)(hl:l≤10000000):
  Calls Tryz.prog 42 #[.slice a l c,.int .i64 n,.int .i64 z] w fun e w'=>∃ a2 c2,e = .returned (.slice a2 (l+k) c2)∧BySt w0 w' a2 (l+k) c2 (L++leB k n):=by
 have HS0:=Hd hS
 clear hS
 subst hz
 go_enter Tryz.func42,Tryz.ntmps42
 go_wp2_with fail
 go_loopw [0,1,8] (fun v0 v1 v8 wr=>∃ (a2:Option Addr) (c2 i z:Nat),v0 = .slice a2 (l+i) c2∧v1 = .int .i64 (z:Int)∧v8 = .int .i64 (i:Int)∧i≤k∧z≤9223372036854775807∧Hid (z=n / 256 ^ i)∧Hid (BySt w0 wr a2 (l+i) c2 (L++leB i n))) (fun _ _ v8 _=>k - (intOf v8).toNat)
 case atStart=>exact ⟨a,c,0,n,rfl,rfl,rfl,Nat.zero_le _,hn,Hd (by simp),Hd (by simpa [leB] using HS0.out)⟩
 case round=>
  obtain ⟨a2,c2,i,z,rfl,rfl,rfl,hi,hz,HZ,HS⟩:=hrel
  by_cases hik:i < k
  ·have hcv:IntKind.u8.wrap (z:Int)=((UInt8.ofNat (z % 256)).toNat:Int):=by rw [UInt8.toNat_ofNat',IntKind.wrap_u8];omega
   have hdv:(z:Int) / 256=((z / 256:Nat):Int):=by omega
   obtain ⟨y,hy⟩:∃ y,y=z / 256:=⟨_,rfl⟩
   rw [← hy] at hdv
   obtain ⟨b,hb⟩:∃ b,b=UInt8.ofNat (z % 256):=⟨_,rfl⟩
   rw [← hb] at hcv
   have HB:=Hd hb;have HY:=Hd hy
   clear hb hy
   go_wp2_with (at_builtin;refine wpList_by_one rfl (.tmp 10) (.tmp 13) rfl HS.out rfl b _ rfl rfl (by omega) ?_;intro a3 c3 w3 hS3;have HS3:=Hd hS3;clear hS3 HS)
   go_wp2
   go_roundw
   case rel=>
    refine ⟨a3,c3,i+1,y,by rw [Nat.add_assoc],rfl,by go_num,by omega,by have:=HY.out;omega,Hd ?_,Hd ?_⟩
    ·rw [HY.out,HZ.out,Nat.div_div_eq_div_mul,← Nat.pow_succ]
    ·rw [leB_take,← HZ.out,← HB.out,← List.append_assoc,← Nat.add_assoc]
     exact HS3.out
   case measure=>simp [intOf];omega
  ·go_wp2
   go_ret
   have:i=k:=by omega
   subst this
   exact ⟨a2,c2,rfl,HS.out⟩
theorem i64_orG (a b:Nat)(ha:a < 9223372036854775808)(hb:b < 9223372036854775808):bits .or .i64 (a:Int) (b:Int)=((a ||| b:Nat):Int):=by
 show IntKind.i64.wrap ((BitVec.ofInt 64 (a:Int) ||| BitVec.ofInt 64 (b:Int)).toNat:Int)=_
 have h1:(BitVec.ofInt 64 (a:Int) ||| BitVec.ofInt 64 (b:Int)).toNat=a ||| b:=by
  rw [BitVec.ofInt_natCast,BitVec.ofInt_natCast,BitVec.toNat_or,BitVec.toNat_ofNat,BitVec.toNat_ofNat,Nat.mod_eq_of_lt (show a < 2 ^ 64 by omega),Nat.mod_eq_of_lt (show b < 2 ^ 64 by omega)]
 have h2:a ||| b < 2 ^ 63:=Nat.or_lt_two_pow (n:=63) ha hb
 rw [h1]
 exact IntWalk.i64_in _ (by omega)
theorem shlorG (p q:Nat)(i:Nat)(hp:p < 256 ^ i)(hi:i≤6)(hq:q < 256):∃ m:Nat,((q:Int)*2 ^ (8*i))=(m:Int)∧m≤72057594037927936∧bits .or .i64 (p:Int) (m:Int)=((p+256 ^ i*q:Nat):Int):=by
 have e0:(256:Nat) ^ i=2 ^ (8*i):=by rw [Nat.pow_mul]
 have e1:((q:Int)*2 ^ (8*i))=((q*2 ^ (8*i):Nat):Int):=by push_cast;rfl
 have h6:2 ^ (8*i)≤2 ^ 48:=Nat.pow_le_pow_right (by decide) (by omega)
 have hb:q*2 ^ (8*i)≤255*2 ^ 48:=Nat.mul_le_mul (by omega) h6
 rw [e0] at hp ⊢
 refine ⟨_,e1,by omega,?_⟩
 rw [i64_orG _ _ (by omega) (by omega),or_shift _ _ _ hp,Nat.mul_comm q]
theorem num_take (bs:List Int)(j:Nat)(h:j < bs.length):num (bs.take (j+1))=num (bs.take j)+256 ^ j*(bs.getD j 0).toNat:=by
 rw [List.take_succ_eq_append_getElem h,num_append,List.length_take,Nat.min_eq_left (by omega)]
 simp [num,List.getD,h]
theorem numG_any (w:World)(a:Option Addr)(n c:Nat)(bs:List Int)(hr:Reads w a bs)(hb:AllB bs)(hn:n=bs.length)(h6:n≤6):
  Calls Tryz.prog 78 #[.slice a n c] w fun e w'=>e = .returned (.int .i64 (num bs:Nat))∧w'=w:=by
 have HR:=Hd hr;have HB:=Hd hb;have HN:=Hd hn
 clear hr hb hn
 go_enter Tryz.func78,Tryz.ntmps78
 go_wp2_with fail
 go_loopw [3,4,5,8] (fun v3 _ _ v8 wr=>∃ (i p:Nat),v3 = .int .i64 (p:Int)∧v8 = .int .i64 (i:Int)∧i≤n∧wr=w∧Hid (p=num (bs.take i))) (fun _ _ _ v8 _=>n - (intOf v8).toNat)
 case atStart=>exact ⟨0,0,rfl,rfl,Nat.zero_le _,rfl,Hd rfl⟩
 case round=>
  obtain ⟨i,p,rfl,rfl,hi,rfl,HP⟩:=hrel
  by_cases hik:i < n
  ·have hil:i < bs.length:=by have:=HN.out;omega
   obtain ⟨g,o,rfl,_,hc⟩:=HR.out.at (by omega)
   have hci:=hc i hil
   have hbi:=HB.out.getD i
   have hnt:=num_take bs i hil
   obtain ⟨z,hz⟩:∃ z,z=bs.getD i 0:=⟨_,rfl⟩
   rw [← hz] at hci hbi hnt
   obtain ⟨q,rfl⟩:∃ q:Nat,z=(q:Int):=⟨z.toNat,by omega⟩
   rw [Int.toNat_natCast] at hnt
   have hp:p < 256 ^ i:=by
    rw [HP.out]
    have:=num_lt (bs.take i) (fun x hx=>HB.out x (List.mem_of_mem_take hx))
    rwa [List.length_take,Nat.min_eq_left (by omega)] at this
   obtain ⟨m,hm,hmb,hor⟩:=shlorG p q i hp (by omega) (by omega)
   have h8:IntKind.i64.wrap (8*(i:Int))=((8*i:Nat):Int):=by rw [IntWalk.i64_in _ (by omega)];push_cast;rfl
   obtain ⟨j,hj⟩:∃ j,j=8*i:=⟨_,rfl⟩
   rw [← hj] at hm h8
   have HNt:=Hd hnt;have HOr:=Hd hor
   have hj48:j≤40:=by omega
   clear hp hc hz hj hnt hor
   go_wp2
   go_roundw
   case rel=>exact ⟨i+1,p+256 ^ i*q,congrArg (Value.int .i64) HOr.out,by go_num,by omega,by trivial,Hd (by rw [HNt.out,HP.out])⟩
   case measure=>simp [intOf];omega
  ·go_wp2
   go_ret
   have:i=n:=by omega
   subst this
   exact ⟨by rw [HP.out,List.take_of_length_le (by have:=HN.out;omega)];rfl,rfl⟩
theorem crc16_nat (bs:List Int):crcOf 0 (nats bs) < 4294967296:=crcOf_lt 0 (nats bs)
theorem mask16 (n:Nat)(h:n < 4294967296):bits .and .u32 (n:Int) 65535=((n % 65536:Nat):Int):=by
 have:=u32_and_nat n 65535 h (by decide)
 rw [show n &&& 65535=n % 65536 from Nat.and_two_pow_sub_one_eq_mod n 16] at this
 exact this
theorem lowsum_any (w:World)(a:Option Addr)(n c:Nat)(bs:List Int)(hr:Reads w a bs)(hb:AllB bs)(hn:n=bs.length)(hc:n≤c)(hm:c≤maxLen)(h0:a=none→c=0):
  Calls Tryz.prog 75 #[.slice a n c] w fun e w'=>e = .returned (.int .i64 (crc16 bs:Nat))∧Kept NoB w w':=by
 have hms:=mask16 _ (crc16_nat bs)
 have HR:=Hd hr;have HB:=Hd hb;have HN:=Hd hn;have HC:=Hd hc;have HM:=Hd hm;have H0:=Hd h0
 clear hr hb hn hc hm h0
 have hsum:∀ (w1:World) (T:Nat),Tbl w1 T→Kept NoB w w1→Calls Tryz.prog 44 #[.pointer (some ⟨T,0,none⟩),.slice (some ⟨w1.heap.size,0,none⟩) 1 1] (w1.alloc (.cells #[.slice a n c] 22)) fun e w'=>e = .returned (.int .u32 (crcOf 0 (nats bs):Nat))∧Kept NoB w w':=by
  intro w1 T hT hk
  have hk2:Kept NoB w (w1.alloc (.cells #[.slice a n c] 22)):=hk.alloc _
  have:=sum_any (w1.alloc (.cells #[.slice a n c] 22)) T (some ⟨w1.heap.size,0,none⟩) 1 1 [bs] (hT.keptNo ((Kept.refl _ _).alloc _)) (.inr ⟨w1.heap.size,0,rfl,by simp,fun i hi=>by
   have:i=0:=by simpa using hi
   subst this
   exact ⟨a,c,by rw [cell_new 0 rfl];simp [HN.out],by simpa using HR.out.keptNo hk2,by simpa [← HN.out] using HC.out,HM.out,H0.out⟩⟩) (by intro p hp;simp at hp;subst hp;exact HB.out) rfl (by decide)
  refine this.mono ?_
  rintro e w' ⟨rfl,h⟩
  exact ⟨by simp,hk2.trans h⟩
 have HS:=Hd hsum
 have HNt:=Hd (newt_any w)
 have hlt:=crc16_nat bs
 have HQ:Hid (crc16 bs=crcOf 0 (nats bs) % 65536):=Hd rfl
 generalize crcOf 0 (nats bs)=q at hms HS hlt HQ
 clear hsum
 go_enter Tryz.func75,Tryz.ntmps75
 go_wp2_with fail
 refine HNt.out.mono ?_
 rintro e w1 ⟨T,rfl,hT,hTl,hk1⟩
 have HS1:=Hd (HS.out w1 T hT hk1)
 clear hT hTl hk1 HNt
 go_wp2_with fail
 refine HS1.out.mono ?_
 rintro e w2 ⟨rfl,hk2⟩
 have HK2:=Hd hk2
 clear hk2
 go_wp2
 go_ret
 exact ⟨by rw [HQ.out];rfl,HK2.out⟩
def gzV (a:Option Addr)(c:Nat)(g:GzP):Array Value:=#[.bool g.text,.bool g.hasx,.bool g.sum,.slice a g.extra.length c,.string (strB g.name),.string (strB g.comm),.int .i64 g.time,.int .i64 g.xfl,.int .i64 g.os]
theorem gzok_yes (w:World)(a:Option Addr)(c:Nat)(g:GzP)(h:g.Ok):Calls Tryz.prog 73 #[.agg (gzV a c g)] w fun e w'=>e = .returned (.bool true)∧Kept NoB w w':=by
 obtain ⟨t,x,s,E,N,C,tm,xf,os⟩:=g
 obtain ⟨h1,h2,h3,h4,h5,h6,h7,h8,h9⟩:=h
 dsimp only at h1 h2 h3 h4 h5 h6 h7 h8 h9
 have HN:=Hd (fun W=>oktext_yes N W h8 h6)
 have HC:=Hd (fun W=>oktext_yes C W h9 h7)
 have HX:=Hd (fun W=>isbyte_yes xf W h2)
 have HO:=Hd (fun W=>isbyte_yes os W h3)
 unfold gzV
 dsimp only
 have hx:x=true∨(x=false∧E.length=0):=by
  cases x with
  | true=>exact .inl rfl
  | false=>exact .inr ⟨rfl,by rw [h5 rfl];rfl⟩
 obtain ⟨n,hn⟩:∃ n,n=E.length:=⟨_,rfl⟩
 rw [← hn] at h4 hx ⊢
 generalize strB N=S1 at HN ⊢
 generalize strB C=S2 at HC ⊢
 have d1:decide ((n:Int)≤65535)=true:=decide_eq_true (by omega)
 have d2:decide ((tm:Int) < 4294967296)=true:=decide_eq_true (by omega)
 have d3:decide (0≤(tm:Int))=true:=decide_eq_true (by omega)
 clear h1 h2 h3 h5 h6 h7 h8 h9 hn
 rcases hx with rfl | ⟨rfl,rfl⟩
 all_goals
  go_enter Tryz.func73,Tryz.ntmps73
  go_wp2_with fail
  refine (HN.out _).mono ?_
  rintro e w1 ⟨rfl,hk1⟩
  have c5:=hk1.cell (show _=some (Value.string S2) from cell_new (w:=w) 5 rfl)
  have c6:=hk1.cell (show _=some (Value.int .i64 tm) from cell_new (w:=w) 6 rfl)
  have c7:=hk1.cell (show _=some (Value.int .i64 xf) from cell_new (w:=w) 7 rfl)
  have c8:=hk1.cell (show _=some (Value.int .i64 os) from cell_new (w:=w) 8 rfl)
  have HK1:=Hd (((Kept.refl NoB w).alloc _).trans hk1)
  clear hk1
  go_wp2_with fail
  refine (HC.out _).mono ?_
  rintro e w2 ⟨rfl,hk2⟩
  have c6:=hk2.cell c6
  have c7:=hk2.cell c7
  have c8:=hk2.cell c8
  have HK2:=Hd (HK1.out.trans hk2)
  clear hk2
  go_wp2_with fail
  refine (HX.out _).mono ?_
  rintro e w3 ⟨rfl,rfl⟩
  go_wp2_with fail
  refine (HO.out _).mono ?_
  rintro e w3 ⟨rfl,rfl⟩
  go_wp2
  go_ret
  exact ⟨rfl,HK2.out⟩
theorem gzok_no (w:World):Calls Tryz.prog 73 #[.agg #[.bool false,.bool false,.bool false,.slice none 0 0,.string ⟨#[]⟩,.string ⟨#[]⟩,.int .i64 0,.int .i64 0,.int .i64 256]] w fun e w'=>e = .returned (.bool false)∧Kept NoB w w':=by
 have HN:=Hd (fun W=>oktext_yes [] W (by simp) (by simp))
 have HX:=Hd (fun W=>isbyte_yes 0 W (by decide))
 have HO:=Hd (fun W=>isbyte_no W)
 have he:strB []=⟨#[]⟩:=rfl
 rw [he] at HN
 clear he
 go_enter Tryz.func73,Tryz.ntmps73
 go_wp2_with fail
 refine (HN.out _).mono ?_
 rintro e w1 ⟨rfl,hk1⟩
 have c5:=hk1.cell (show _=some (Value.string ⟨#[]⟩) from cell_new (w:=w) 5 rfl)
 have c6:=hk1.cell (show _=some (Value.int .i64 0) from cell_new (w:=w) 6 rfl)
 have c7:=hk1.cell (show _=some (Value.int .i64 0) from cell_new (w:=w) 7 rfl)
 have c8:=hk1.cell (show _=some (Value.int .i64 256) from cell_new (w:=w) 8 rfl)
 have HK1:=Hd (((Kept.refl NoB w).alloc _).trans hk1)
 clear hk1
 go_wp2_with fail
 refine (HN.out _).mono ?_
 rintro e w2 ⟨rfl,hk2⟩
 have c6:=hk2.cell c6
 have c7:=hk2.cell c7
 have c8:=hk2.cell c8
 have HK2:=Hd (HK1.out.trans hk2)
 clear hk2
 go_wp2_with fail
 refine (HX.out _).mono ?_
 rintro e w3 ⟨rfl,rfl⟩
 go_wp2_with fail
 refine (HO.out _).mono ?_
 rintro e w3 ⟨rfl,rfl⟩
 go_wp2
 go_ret
 exact ⟨rfl,HK2.out⟩
def flB (g:GzP):List Bool:=[g.text,g.sum,g.hasx,!g.name.isEmpty,!g.comm.isEmpty]
def accN (l:List Bool):Nat→Nat
 | 0=>0
 | i+1=>accN l i+bitN (l.getD i false) (2 ^ i)
theorem accN_lt (l:List Bool):∀ i,accN l i < 2 ^ i
 | 0=>by simp [accN]
 | i+1=>by
  have:=accN_lt l i
  rw [accN,Nat.pow_succ]
  unfold bitN
  split <;> omega
theorem accN_flag (g:GzP):accN (flB g) 5=flagN g:=by
 unfold flB flagN
 simp [accN]
def flRow (l:List Bool):Array Value:=#[.bool (l.getD 0 false),.int .u8 1,.bool (l.getD 1 false),.int .u8 2,.bool (l.getD 2 false),.int .u8 4,.bool (l.getD 3 false),.int .u8 8,.bool (l.getD 4 false),.int .u8 16]
theorem flRow_at (l:List Bool)(i:Nat)(hi:i < 5):(flRow l)[i*2]?=some (.bool (l.getD i false))∧(flRow l)[i*2+1]?=some (.int .u8 ((2 ^ i:Nat):Int)):=by
 match i,hi with
 | 0,_=>exact ⟨rfl,rfl⟩
 | 1,_=>exact ⟨rfl,rfl⟩
 | 2,_=>exact ⟨rfl,rfl⟩
 | 3,_=>exact ⟨rfl,rfl⟩
 | 4,_=>exact ⟨rfl,rfl⟩
theorem or_u8 (p i:Nat)(hp:p < 2 ^ i)(hi:i < 5):bits .or .u8 (p:Int) ((2 ^ i:Nat):Int)=((p+2 ^ i:Nat):Int):=by
 have h5:2 ^ i≤2 ^ 4:=Nat.pow_le_pow_right (by decide) (by omega)
 rw [u8_or_nat p (2 ^ i) (by omega) (by omega)]
 have:=or_shift p 1 i hp
 rw [Nat.one_mul] at this
 rw [this]
theorem flags_any (w:World)(a:Option Addr)(c:Nat)(g:GzP):Calls Tryz.prog 74 #[.agg (gzV a c g)] w fun e w'=>e = .returned (.int .u8 (flagN g:Nat))∧Kept NoB w w':=by
 have hfl:=accN_flag g
 have hN:=strB_list g.name
 have hC:=strB_list g.comm
 obtain ⟨l,hl⟩:∃ l,l=flB g:=⟨_,rfl⟩
 have hr:flRow l=#[.bool g.text,.int .u8 1,.bool g.sum,.int .u8 2,.bool g.hasx,.int .u8 4,.bool (!g.name.isEmpty),.int .u8 8,.bool (!g.comm.isEmpty),.int .u8 16]:=by rw [hl];rfl
 rw [← hl] at hfl
 rw [← hfl]
 have e1:(strB g.name).toList.isEmpty=g.name.isEmpty:=by rw [hN]
 have e2:(strB g.comm).toList.isEmpty=g.comm.isEmpty:=by rw [hC]
 have e1p:((strB g.name).toList=[])=(g.name.isEmpty=true):=by rw [hN];simp
 have e2p:((strB g.comm).toList=[])=(g.comm.isEmpty=true):=by rw [hC];simp
 obtain ⟨t,x,s,E,N,C,tm,xf,os⟩:=g
 unfold gzV
 dsimp only at *
 generalize strB N=S1 at *
 generalize strB C=S2 at *
 generalize N.isEmpty=b1 at *
 generalize C.isEmpty=b2 at *
 have HR:=Hd hr
 clear hr hfl hl hN hC
 go_enter Tryz.func74,Tryz.ntmps74
 go_wp2_with fail
 go_loopw [3,5,25] (fun v3 _ v25 wr=>∃ i p:Nat,v3 = .int .u8 (p:Int)∧v25 = .int .i64 (i:Int)∧i≤5∧Hid (p=accN l i)∧Hid (wr.heap[w.heap.size+1]?=some (.cells (flRow l) 168 (0,0)))∧Hid (Kept NoB w wr)) (fun _ _ v25 _=>5 - (intOf v25).toNat)
 case atStart=>exact ⟨0,0,rfl,rfl,by omega,Hd rfl,Hd (by rw [HR.out];have:=heap_alloc_new (w.alloc (.cells #[.bool t,.bool x,.bool s,.slice a E.length c,.string S1,.string S2,.int .i64 tm,.int .i64 xf,.int .i64 os] 42)) (.cells #[.bool t,.int .u8 1,.bool s,.int .u8 2,.bool x,.int .u8 4,.bool (!b1),.int .u8 8,.bool (!b2),.int .u8 16] 168);simpa using this),Hd (((Kept.refl NoB w).alloc _).alloc _)⟩
 case round=>
  obtain ⟨i,p,rfl,rfl,hi,HP,HW,HK⟩:=hrel
  by_cases hi5:i < 5
  ·obtain ⟨f1,f2⟩:=flRow_at l i hi5
   have c1:=(obj_cell HW.out (i*2)).trans f1
   have c2:=(obj_cell HW.out (i*2+1)).trans f2
   have hp:p < 2 ^ i:=by rw [HP.out];exact accN_lt l i
   have hor:=or_u8 p i hp hi5
   have HAc:Hid (accN l (i+1)=p+bitN (l.getD i false) (2 ^ i)):=Hd (by rw [accN,HP.out])
   obtain ⟨q,hq⟩:∃ q,q=2 ^ i:=⟨_,rfl⟩
   rw [← hq] at c2 hor HAc
   generalize l.getD i false=b at c1 HAc
   clear f1 f2 hp hq
   cases b with
   | true=>
    go_wp2
    go_roundw
    case rel=>exact ⟨i+1,p+q,rfl,by go_num,by omega,Hd (by rw [HAc.out];rfl),Hd ((Kept.alloc (Kept.refl NoB wr) _).obj HW.out (fun h=>h)),Hd (HK.out.alloc _)⟩
    case measure=>simp [intOf];omega
   | false=>
    go_wp2
    go_roundw
    case rel=>exact ⟨i+1,p,rfl,by go_num,by omega,Hd (by rw [HAc.out];rfl),Hd ((Kept.alloc (Kept.refl NoB wr) _).obj HW.out (fun h=>h)),Hd (HK.out.alloc _)⟩
    case measure=>simp [intOf];omega
  ·go_wp2
   go_ret
   have:i=5:=by omega
   subst this
   exact ⟨by rw [← HP.out];rfl,HK.out⟩
def ge (s i:Nat):Nat:=i / s - 1
def gb (s i:Nat):Nat:=if i / s - 1=0 then i else (s+i % s)*2 ^ (i / s - 1)
def lb (i:Nat):Nat:=3+gb 4 i
def le4 (i:Nat):Nat:=ge 4 i
def db (i:Nat):Nat:=1+gb 2 i
def de (i:Nat):Nat:=ge 2 i
theorem lb_next:∀ i,i < 28→∀ l,l < 28→l < i→lb l+2 ^ le4 l≤lb i:=by decide
theorem db_next:∀ i,i < 30→∀ l,l < 30→l < i→db l+2 ^ de l≤db i:=by decide
theorem lb_step:∀ i,i < 27→lb (i+1)=lb i+2 ^ le4 i:=by decide
theorem db_step:∀ i,i < 29→db (i+1)=db i+2 ^ de i:=by decide
theorem lb_top:∀ i,i < 28→lb i+2 ^ le4 i≤259∧(i < 27→lb i+2 ^ le4 i≤227)∧3≤lb i∧le4 i≤5:=by decide
theorem db_top:∀ i,i < 30→db i+2 ^ de i≤32769∧1≤db i∧de i≤13:=by decide
theorem lb0:lb 0=3:=by decide
theorem db0:db 0=1:=by decide
theorem lb_only (i l v:Nat)(hi:i < 28)(hl:l < 28)(hv:v < 2 ^ le4 i)(h1:lb l≤lb i+v)(h2:l < 27→lb i+v < lb (l+1)):l=i:=by
 rcases Nat.lt_trichotomy l i with h | h | h
 ·exfalso
  have a:=lb_next i hi l hl h
  have b:=h2 (by omega)
  rw [lb_step l (by omega)] at b
  omega
 ·exact h
 ·exfalso
  have a:=lb_next l hl i hi h
  omega
theorem db_only (i l v:Nat)(hi:i < 30)(hl:l < 30)(hv:v < 2 ^ de i)(h1:db l≤db i+v)(h2:l < 29→db i+v < db (l+1)):l=i:=by
 rcases Nat.lt_trichotomy l i with h | h | h
 ·exfalso
  have a:=db_next i hi l hl h
  have b:=h2 (by omega)
  rw [db_step l (by omega)] at b
  omega
 ·exact h
 ·exfalso
  have a:=db_next l hl i hi h
  omega
structure Tk where
 l:Int
 d:Int
 c:Int
def Tk.v (t:Tk):Value := .agg #[.int .i64 t.l,.int .i64 t.d,.int .u8 t.c]
def Tk.wf (t:Tk):Prop:=(-9223372036854775808≤t.l∧t.l≤9223372036854775807)∧(-9223372036854775808≤t.d∧t.d≤9223372036854775807)∧0≤t.c∧t.c < 256
def Tk.ok (t:Tk):Bool:=if t.l=0 then decide (t.d=0) else decide (3≤t.l∧t.l≤258∧1≤t.d∧t.d≤32768∧t.c=0)
def Tk.no (t:Tk)(n:Nat)(most:Int):Int:=if t.ok=false then 1 else if (n:Int) < t.d then 4 else if most < n+(if t.l < 1 then 1 else t.l) then 5 else 0
theorem tok_no (l d c:Int)(h1:l≠0)(h:¬ (3≤l∧l≤258∧1≤d∧d≤32768∧c=0)):(Tk.mk l d c).ok=false:=by
 unfold Tk.ok
 rw [if_neg h1]
 exact decide_eq_false h
theorem ok_any (t:Tk)(w:World):Calls Tryz.prog 88 #[t.v] w fun e w'=>e = .returned (.bool t.ok)∧Kept NoB w w':=by
 obtain ⟨l,d,c⟩:=t
 have hc0:(w.alloc (.cells #[.int .i64 l,.int .i64 d,.int .u8 c] 101)).cell? ⟨w.heap.size,0,none⟩=some (.int .i64 l):=by rw [cell_new 0 rfl];rfl
 have hc1:(w.alloc (.cells #[.int .i64 l,.int .i64 d,.int .u8 c] 101)).cell? ⟨w.heap.size,1,none⟩=some (.int .i64 d):=by rw [cell_new 1 rfl];rfl
 have hc2:(w.alloc (.cells #[.int .i64 l,.int .i64 d,.int .u8 c] 101)).cell? ⟨w.heap.size,2,none⟩=some (.int .u8 c):=by rw [cell_new 2 rfl];rfl
 have hk:Kept NoB w (w.alloc (.cells #[.int .i64 l,.int .i64 d,.int .u8 c] 101)):=(Kept.refl _ _).alloc _
 have HK:=Hd hk
 clear hk
 unfold Tk.v
 simp only []
 have hcase:(l=0∧d=0)∨(l=0∧d≠0)∨(l≠0∧¬ 3≤l)∨(l≠0∧3≤l∧¬ l≤258)∨(l≠0∧3≤l∧l≤258∧¬ 1≤d)∨(l≠0∧3≤l∧l≤258∧1≤d∧¬ d≤32768)∨(l≠0∧3≤l∧l≤258∧1≤d∧d≤32768∧c≠0)∨(l≠0∧3≤l∧l≤258∧1≤d∧d≤32768∧c=0):=by omega
 go_enter Tryz.func88,Tryz.ntmps88
 rcases hcase with ⟨h1,h2⟩ | ⟨h1,h2⟩ | ⟨h1,h2⟩ | ⟨h1,h2,h3⟩ | ⟨h1,h2,h3,h4⟩ | ⟨h1,h2,h3,h4,h5⟩ | ⟨h1,h2,h3,h4,h5,h6⟩ | ⟨h1,h2,h3,h4,h5,h6⟩
 ·subst h1 h2
  go_wp2
  go_ret
  exact ⟨rfl,HK.out⟩
 ·subst h1
  have g:(d == 0)=false:=by simp;exact h2
  go_wp2
  go_ret
  exact ⟨by simp [Tk.ok,h2],HK.out⟩
 all_goals have g1:(l == 0)=false:=by simp;exact h1
 ·go_wp2
  go_ret
  exact ⟨by rw [tok_no l d c h1 (by omega)];rfl,HK.out⟩
 ·go_wp2
  go_ret
  exact ⟨by rw [tok_no l d c h1 (by omega)];rfl,HK.out⟩
 ·go_wp2
  go_ret
  exact ⟨by rw [tok_no l d c h1 (by omega)];rfl,HK.out⟩
 ·go_wp2
  go_ret
  exact ⟨by rw [tok_no l d c h1 (by omega)];rfl,HK.out⟩
 ·have g:(c == 0)=false:=by simp;exact h6
  go_wp2
  go_ret
  exact ⟨by rw [tok_no l d c h1 (by omega)];rfl,HK.out⟩
 ·subst h6
  go_wp2
  go_ret
  exact ⟨by simp [Tk.ok,h1,h2,h3,h4,h5],HK.out⟩
def copyN (D:Nat):Nat→List Int→List Int
 | 0,bs=>bs
 | k+1,bs=>copyN D k bs++[(copyN D k bs).getD ((copyN D k bs).length - D) 0]
theorem copyN_len (D k:Nat)(bs:List Int):(copyN D k bs).length=bs.length+k:=by
 induction k with
 | zero=>rfl
 | succ k ih=>simp only [copyN,List.length_append,ih,List.length_cons,List.length_nil];omega
theorem copyN_all (D k:Nat)(bs:List Int)(h:AllB bs):AllB (copyN D k bs):=by
 induction k with
 | zero=>exact h
 | succ k ih=>
  intro b hb
  simp only [copyN,List.mem_append,List.mem_singleton] at hb
  rcases hb with hb | rfl
  ·exact ih b hb
  ·exact ih.getD _
def Tk.put (t:Tk)(bs:List Int):List Int:=if t.l=0 then bs++[t.c] else copyN t.d.toNat t.l.toNat bs
theorem put_len (t:Tk)(bs:List Int):(t.put bs).length=bs.length+(if t.l=0 then 1 else t.l.toNat):=by
 unfold Tk.put
 split
 ·simp
 ·exact copyN_len _ _ _
def kpart (z:Int):Int:=if 1≤z∧z≤15 then ((2 ^ (15 - z.toNat):Nat):Int) else 0
def kraftL:List Int→Int
 | []=>0
 | z :: r=>kpart z+kraftL r
def costL:List Int→List Int→Int
 | x :: r,y :: s=>x*y+costL r s
 | _,_=>0
theorem kpart_bd (z:Int):0≤kpart z∧kpart z≤32768:=by
 unfold kpart
 split
 ·have h:=Nat.pow_le_pow_right (n:=2) (by decide) (show 15 - z.toNat≤15 by omega)
  obtain ⟨p,hp⟩:∃ p,p=2 ^ (15 - z.toNat):=⟨_,rfl⟩
  rw [← hp] at h ⊢
  clear hp
  constructor <;> omega
 ·decide
theorem kraft_append:∀ a b:List Int,kraftL (a++b)=kraftL a+kraftL b
 | [],b=>by simp [kraftL]
 | z :: r,b=>by simp only [List.cons_append,kraftL,kraft_append r b];omega
theorem kpart_div:∀ k:Nat,1≤k→k≤15→(32768:Int) / 2 ^ k=kpart (k:Int):=by
 intro k h1 h2
 have:k=1∨k=2∨k=3∨k=4∨k=5∨k=6∨k=7∨k=8∨k=9∨k=10∨k=11∨k=12∨k=13∨k=14∨k=15:=by omega
 rcases this with rfl | rfl | rfl | rfl | rfl | rfl | rfl | rfl | rfl | rfl | rfl | rfl | rfl | rfl | rfl <;> decide
theorem kpart_out (z:Int)(h:¬ (1≤z∧z≤15)):kpart z=0:=if_neg h
def Small (m:Int)(zs:List Int):Prop:=∀ z∈zs,0≤z∧z≤m
theorem Small.getD {m:Int}{zs:List Int}(h:Small m zs)(i:Nat)(hi:i < zs.length):0≤zs.getD i 0∧zs.getD i 0≤m:=by
 have:zs.getD i 0=zs[i]:=by simp [List.getD,hi]
 rw [this];exact h _ (List.getElem_mem hi)
theorem cost_step (a b:List Int)(j:Nat)(ha:j < a.length)(hb:j < b.length):costL (a.drop j) (b.drop j)=a.getD j 0*b.getD j 0+costL (a.drop (j+1)) (b.drop (j+1)):=by
 rw [List.drop_eq_getElem_cons ha,List.drop_eq_getElem_cons hb];simp [costL,List.getD,ha,hb]
theorem cost_end (a b:List Int)(j:Nat)(h:a.length≤j∨b.length≤j):costL (a.drop j) (b.drop j)=0:=by
 rcases h with h | h
 ·rw [List.drop_of_length_le h];simp [costL]
 ·rw [List.drop_of_length_le h];cases a.drop j <;> simp [costL]
theorem prod_bd {x y:Int}(hx:0≤x∧x≤1048576)(hy:0≤y∧y≤1048576):0≤x*y∧x*y≤1099511627776:=by
 refine ⟨Int.mul_nonneg hx.1 hy.1,?_⟩
 have h1:x*y≤1048576*y:=Int.mul_le_mul_of_nonneg_right hx.2 hy.1
 omega
theorem cost_calls (ao bo:Option Addr)(ca cb B C:Nat)(xs ys:List Int)(w:World)(hx:RdI w B ao xs)(hy:RdI w C bo ys)(hxs:Small 1048576 xs)(hys:Small 1048576 ys)(hlx:xs.length≤100000)(hly:ys.length≤1000000000):
  Calls Tryz.prog 92 #[.slice ao xs.length ca,.slice bo ys.length cb] w fun e w'=>e = .returned (.int .i64 (costL xs ys))∧Kept NoB w w':=by
 have HX:=Hd hx
 have HY:=Hd hy
 have HXs:=Hd hxs
 have HYs:=Hd hys
 clear hx hy hxs hys
 have hc:((ys.length:Int) < xs.length∧∃ m:Nat,m=ys.length∧m≤xs.length∧m≤ys.length)∨(¬ (ys.length:Int) < xs.length∧∃ m:Nat,m=xs.length∧m≤xs.length∧m≤ys.length):=by
  by_cases h:(ys.length:Int) < xs.length
  ·exact .inl ⟨h,_,rfl,by omega,by omega⟩
  ·exact .inr ⟨h,_,rfl,by omega,by omega⟩
 rcases hc with ⟨hc,m,hm,hmx,hmy⟩ | ⟨hc,m,hm,hmx,hmy⟩
 all_goals
  go_enter Tryz.func92,Tryz.ntmps92
  go_wp2
  go_loopw [5,12,6] (fun v5 v12 _v6 wr=>∃ (acc:Int) (j:Nat),v5 = .int .i64 acc∧v12 = .int .i64 (j:Int)∧j≤m∧0≤acc∧acc≤1099511627776*(j:Int)∧Hid (acc+costL (xs.drop j) (ys.drop j)=costL xs ys)∧Hid (Kept NoB w wr)) (fun _ v12 _ _=>m - (intOf v12).toNat)
  case atStart=>exact ⟨0,0,rfl,rfl,by omega,by omega,by omega,Hd (by rw [List.drop_zero,List.drop_zero,Int.zero_add]),Kept.refl _ _⟩
  case round=>
   obtain ⟨acc,j,rfl,rfl,hj,h0,hab,HS,HK⟩:=hrel
   by_cases hlt:j < m
   ·have hlx':(j:Int) < xs.length:=by omega
    have hly':(j:Int) < ys.length:=by omega
    obtain ⟨g,off,rfl,hg,hcx⟩:=HX.out j (by omega)
    obtain ⟨g2,off2,rfl,hg2,hcy⟩:=HY.out j (by omega)
    have hcx':=HK.out.cell hcx
    have hcy':=HK.out.cell hcy
    have hbx:=HXs.out.getD j (by omega)
    have hby:=HYs.out.getD j (by omega)
    have hs:=HS.out
    rw [cost_step xs ys j (by omega) (by omega)] at hs
    obtain ⟨x,hx⟩:∃ x,x=xs.getD j 0:=⟨_,rfl⟩
    obtain ⟨y,hy⟩:∃ y,y=ys.getD j 0:=⟨_,rfl⟩
    rw [← hx] at hcx' hbx hs
    rw [← hy] at hcy' hby hs
    have hp:=prod_bd hbx hby
    have hw1:wrap64 (x*y)=x*y:=IntWalk.wrap64_in _ (by omega)
    obtain ⟨p,hpe⟩:∃ p,p=x*y:=⟨_,rfl⟩
    rw [← hpe] at hs hp hw1
    have hw2:wrap64 (acc+p)=acc+p:=IntWalk.wrap64_in _ (by omega)
    have HPe:=Hd hpe;have HW1:=Hd hw1;have HW2:=Hd hw2;have HS2:=Hd hs
    clear hw1 hw2 hs hpe hx hy hcx hcy
    go_upto_region 5 with fail
    go_quiet (fail)
    have HK2:=Hd (HK.out.drewN nq)
    go_wp2
    go_roundw
    case rel=>exact ⟨acc+p,j+1,by rw [← HPe.out,HW1.out,HW2.out],by go_num,by omega,by omega,by omega,Hd (by have:=HS2.out;omega),HK2⟩
    case measure=>simp [intOf];omega
   ·have hs:=HS.out
    rw [cost_end xs ys j (by omega)] at hs
    obtain rfl:acc=costL xs ys:=by omega
    clear hs
    have hlt':m≤j:=by omega
    go_wp2
    go_ret
    exact ⟨rfl,HK.out⟩
end Go.Proofs.YtfmjfgmbjdhogaaGreatDoor
