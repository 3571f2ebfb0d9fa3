import Derived.Test.YtfmjfgmbjdhogaaGreatDoorMn37
set_option linter.unusedVariables false
set_option linter.unusedSimpArgs false
set_option maxRecDepth 20000
set_option maxHeartbeats 8000000
namespace Go.Proofs.YtfmjfgmbjdhogaaGreatDoor
open Go.RowKit
def manyG (i:Nat)(nm:List UInt8):GzP:=⟨false,false,decide (i % 2=1),[],nm,[],0,0,i⟩
theorem manyG_ok (i:Nat)(nm:List UInt8)(hi:i < 6)(h:nm.length≤30)(h0:0 ∉ nm):(manyG i nm).Ok:=
 ⟨(by show (0:Nat) < _;decide),(by show (0:Nat) < _;decide),(by show i < 256;omega),(by show (0:Nat)≤_;decide),fun _=>rfl,(by show nm.length≤1000;omega),(by show (0:Nat)≤_;decide),h0,(by intro h;cases h)⟩
theorem manyG_len (i:Nat)(nm:List UInt8)(h:nm.length≤30):(headG (manyG i nm)).length≤43:=by
 have e1:(gz1 (manyG i nm)).length=10:=by unfold gz1;simp [leB_len]
 have e2:(gzX (manyG i nm)).length=0:=rfl
 have e3:(txtB nm).length≤31:=by unfold txtB;split <;> simp;omega
 have e4:(txtB ([]:List UInt8)).length=0:=rfl
 unfold headG gz4
 simp only [List.length_append,e1,e2]
 show 10+0+(txtB nm).length+(txtB ([]:List UInt8)).length+_≤43
 rw [e4]
 split
 ·simp only [leB_len];omega
 ·simp only [List.length_nil];omega
theorem mem_len {i:Nat}{nm L body:List UInt8}{lv:Int}{qs:List (Nat × Nat)}(h:nm.length≤30)(hp:PackedP lv L (nb body) qs)(hl:L.length≤100):(memB (manyG i nm) L body).length≤160:=by
 have h1:=manyG_len i nm h
 have h2:=hp.len
 have h3:=hp.few
 rw [nb_len] at h2
 unfold memB
 simp only [List.length_append,leB_len]
 omega
theorem BySt.rebase {w0 w1 w:World}{a:Option Addr}{l c:Nat}{L:List UInt8}(h:BySt w1 w a l c L)(hk:Kept NoB w0 w1):BySt w0 w a l c L:=⟨h.len,h.own,hk.trans h.kept,fun k e=>Nat.le_trans hk.size (h.fresh k e)⟩
theorem BySt.over {w0 w w2:World}{lo:Nat}{a h h2:Option Addr}{l c hl hc l2 c2:Nat}{L:List UInt8}{es es2:List GzE}(hb:BySt w0 w a l c L)(hs2:HdSt lo w2 h2 l2 c2 es2)(hs:HdSt lo w h hl hc es)(hlo:w0.heap.size≤lo)(hk:Kept (OwnB (.slice h hl hc)) w w2):BySt w0 w2 a l c L:=
 ⟨hb.len,hk.row hb.own (fun k e=>hb.ne hs k e),⟨hk.os.trans hb.kept.os,hk.tape.trans hb.kept.tape,hk.output.trans hb.kept.output,Nat.le_trans hb.kept.size hk.size,fun k hk1 _=>(hk.block k (Nat.lt_of_lt_of_le hk1 hb.kept.size) (fun e=>by have:=hs.fresh k e;omega)).trans (hb.kept.block k hk1 (fun e=>e))⟩,hb.fresh⟩
structure ManyI (w wr:World)(i:Nat)(ms:List Mm)(a7:Option Addr)(l7 c7:Nat)(ha:Option Addr)(hl hc:Nat)(es:List GzE):Prop where
 len:ms.length=i
 ok:∀ m∈ms,m.Ok
 lens:(ms.map (·.L)).flatten.length≤100*i
 ob:BySt w wr a7 l7 c7 ((ms.map fun m=>memB m.g m.L m.body).flatten)
 few:l7≤160*i
 hs:HdSt w.heap.size wr ha hl hc es
 el:es=ms.map fun m=>⟨none,0,m.g⟩
 xn:∀ m∈ms,m.g.extra=[]
theorem ManyI.no {w wr w2:World}{i:Nat}{ms:List Mm}{a7:Option Addr}{l7 c7:Nat}{ha:Option Addr}{hl hc:Nat}{es:List GzE}(h:ManyI w wr i ms a7 l7 c7 ha hl hc es)(hk:Kept NoB wr w2):ManyI w w2 i ms a7 l7 c7 ha hl hc es:=
 ⟨h.len,h.ok,h.lens,h.ob.on hk,h.few,h.hs.no hk,h.el,h.xn⟩
set_option maxHeartbeats 32000000 in
theorem gzipMany_walk (ro:Option Addr)(rc:Nat)(ps:List (List Int))(no_:Option Addr)(nc:Nat)(ns:List (List UInt8))(x:Int)(w:World)(hT:DeB w)(hP:Parts w ro ps)(hPa:AllP ps)(hPl:ps.length≤maxLen)(hS:RdS w w.heap.size no_ ns)(hSl:ns.length≤maxLen)(nr nn:Nat)(hnr:nr=ps.length)(hnn:nn=ns.length):
  Calls Tryz.prog 6 #[.slice ro nr rc,.slice no_ nn nc,.int .i64 x] w fun e w'=>e = .returned (.bool true)∧Below w.heap.size w w':=by
 have HAw:=Hd (fun (W:World)=>awake11_any W)
 obtain ⟨K,hK⟩:∃ K,K=min nr 6:=⟨_,rfl⟩
 have hway:((nr:Int)≤6∧K=nr)∨((6:Int) < nr∧K=6):=by omega
 have hmn:min (nr:Int) 6=(K:Int):=by rcases hway with ⟨a,b⟩ | ⟨a,b⟩;rw [Int.min_eq_left a];omega;rw [Int.min_eq_right (by omega)];omega
 have hK6:K≤6:=by omega
 have hKr:K≤nr:=by omega
 unfold maxLen at hPl hSl
 rw [← hnr] at hPl
 rw [← hnn] at hSl
 have HT:=Hd hT;have HP:=Hd hP;have HPa:=Hd hPa;have HS:=Hd hS;have HNr:=Hd hnr;have HNn:=Hd hnn
 clear hT hP hPa hS hnr hnn hway hK
 go_enter Tryz.func6,Tryz.ntmps6
 go_wp2_with fail
 go_loopw [7,8,10,11,12,13,14] (fun v7 v8 v10 v11 _ _ _ wr=>∃ (i:Nat) (ms:List Mm) (a7:Option Addr) (l7 c7:Nat) (ha:Option Addr) (hl hc:Nat) (es:List GzE) (W8:ByteArray),v7 = .slice a7 l7 c7∧v8 = .string W8∧v10 = .slice ha hl hc∧v11 = .int .i64 (i:Int)∧i≤K∧Hid (W8=strB (ms.map (·.L)).flatten)∧Hid (ManyI w wr i ms a7 l7 c7 ha hl hc es)) (fun _ _ _ v11 _ _ _ _=>6 - (intOf v11).toNat)
 case atStart=>exact ⟨0,[],none,0,0,none,0,0,[],_,rfl,rfl,rfl,rfl,Nat.zero_le _,Hd rfl,Hd ⟨rfl,(fun m hm=>by cases hm),Nat.zero_le _,BySt.nil _,Nat.zero_le _,HdSt.start _ _,rfl,(fun m hm=>by cases hm)⟩⟩
 case round=>
  obtain ⟨i,ms,a7,l7,c7,ha,hl,hc,es,W8,rfl,rfl,rfl,rfl,hi,HW8,HI⟩:=hrel
  by_cases hiK:i < K
  ·have hip:i < ps.length:=by rw [← HNr.out];omega
   rcases HP.out with h0 | ⟨rb,ro2,rfl,hrb,hcells⟩
   ·rw [h0] at hip;exact absurd hip (Nat.not_lt_zero _)
   obtain ⟨pa,pc,hc0,hprd,hpl,hpm,hpn⟩:=hcells i hip
   have hpall:=AllP.getD HPa.out i
   have hkw:=HI.out.ob.kept
   have ci:=hkw.cell hc0
   obtain ⟨p,hp⟩:∃ p,p=ps.getD i []:=⟨_,rfl⟩
   rw [← hp] at ci hc0 hprd hpl hpall
   obtain ⟨pl,hple⟩:∃ pl,pl=p.length:=⟨_,rfl⟩
   rw [← hple] at ci hc0 hpl
   have HC0:=Hd hc0
   have HPrd:=Hd hprd;have HPle:=Hd hple;have HPall:=Hd hpall;have HPn:=Hd hpn;have HPm:=Hd hpm;have HKw:=Hd hkw
   have hpm2:=hpm
   unfold maxLen at hpm2
   clear hcells hc0 hprd hpall hkw hp hple hpn hpm hip
   by_cases hbig:100 < pl
   ·have hb2:(100:Int) < (pl:Int):=by omega
    go_wp2_with fail
    refine (HAw.out _).mono ?_
    rintro e w2 ⟨rfl,hk2⟩
    have HK2:=Hd (HKw.out.trans hk2)
    clear hk2
    go_wp2
    go_ret
    exact ⟨rfl,HK2.out.belowNo (Below.refl _ _)⟩
   ·have hb2:¬ (100:Int) < (pl:Int):=by omega
    obtain ⟨y,hy⟩:∃ y:Nat,y=i % 2:=⟨_,rfl⟩
    have hand:bits .and .i64 (i:Int) 1=(y:Int):=by
     have:=i64_mask (i:Int) 1 (by decide)
     rw [hy]
     exact this.trans (by push_cast;rfl)
    obtain ⟨sb,hsb⟩:∃ sb:Bool,sb=decide (i % 2=1):=⟨_,rfl⟩
    have hy1:((y:Int) == 1)=sb:=by
     rw [hsb,hy]
     by_cases h:i % 2=1
     ·rw [h];simp
     ·rw [beq_eq_false_iff_ne.2 (by omega)];simp [h]
    have HSb:=Hd hsb
    clear hy hsb
    go_upto_if 51 with fail
    have hg0:(wr.alloc (.cells #[.bool false,.bool false,.bool sb,.slice none 0 0,.string ⟨#[]⟩,.string ⟨#[]⟩,.int .i64 0,.int .i64 0,.int .i64 (i:Int)] 42)).heap[wr.heap.size]?=some (.cells #[.bool false,.bool false,.bool sb,.slice none 0 0,.string ⟨#[]⟩,.string ⟨#[]⟩,.int .i64 0,.int .i64 0,.int .i64 (i:Int)] 42 (0,0)):=heap_alloc_new _ _
    have hk0:Kept NoB wr (wr.alloc (.cells #[.bool false,.bool false,.bool sb,.slice none 0 0,.string ⟨#[]⟩,.string ⟨#[]⟩,.int .i64 0,.int .i64 0,.int .i64 (i:Int)] 42)):=(Kept.refl _ _).alloc _
    generalize (wr.alloc (.cells #[.bool false,.bool false,.bool sb,.slice none 0 0,.string ⟨#[]⟩,.string ⟨#[]⟩,.int .i64 0,.int .i64 0,.int .i64 (i:Int)] 42))=wg at hg0 hk0 ⊢
    have HG0:=Hd hg0;have HK0:=Hd hk0
    obtain ⟨X,hX⟩:∃ X,X=wr.heap.size:=⟨_,rfl⟩
    rw [← hX] at HG0 ⊢
    have HX:=Hd hX
    clear hg0 hk0 hX
    go_cut [] from 48 to 57 (fun wx=>∃ nm:List UInt8,Hid (nm.length≤30∧0 ∉ nm)∧Hid (wx.heap[X]?=some (.cells #[.bool false,.bool false,.bool sb,.slice none 0 0,.string (strB nm),.string ⟨#[]⟩,.int .i64 0,.int .i64 0,.int .i64 (i:Int)] 42 (0,0)))∧Hid (Kept NoB wr wx))
    case first=>
     by_cases hin:i < nn
     ·have hcs:∃ g off,no_=some ⟨g,off,none⟩∧wg.cell? ⟨g,off+i,none⟩=some (.string (strB (ns.getD i []))):=by
       obtain ⟨g,off,h1,h2,h3⟩:=(HS.out.keptNo (HKw.out.trans HK0.out)) i (by rw [← HNn.out];exact hin)
       exact ⟨g,off,h1,h3⟩
      obtain ⟨gs,offs,rfl,hcs⟩:=hcs
      have hinI:(i:Int) < (nn:Int):=by omega
      have HTx:=Hd (text11_any wg (ns.getD i []))
      have HOk:=Hd (text11_ok (ns.getD i []))
      generalize ns.getD i []=nL at hcs HTx HOk
      go_wp2_with fail
      refine HTx.out.mono ?_
      rintro e wt ⟨rfl,rfl⟩
      have f3:=obj_free HG0.out 4
      have d3:=(obj_cell HG0.out 4).trans (show _=some (.string ⟨#[]⟩:Value) from rfl)
      go_wp2_with fail
      go_meet
      exact ⟨text11 nL,HOk,Hd (obj_set HG0.out 4 _),Hd (HK0.out.setCell (p:=⟨X,4,none⟩) (.inr (by rw [HX.out];exact Nat.le_refl _)) _)⟩
     ·have hinI:¬ (i:Int) < (nn:Int):=by omega
      go_wp2_with fail
      go_meet
      exact ⟨[],Hd ⟨by decide,fun h=>by cases h⟩,HG0,HK0⟩
    case rest=>
     obtain ⟨nm,HNm,hg1,hk1⟩:=hcut
     obtain ⟨w1,rfl⟩:∃ z,z=wc:=⟨_,rfl⟩
     have hkk:=HKw.out.trans hk1.out
     have ci1:=hk1.out.cell ci
     have hx1:=hg1.out
     have HK1:=hk1
     have HKk:=Hd hkk
     have HG1:=hg1
     clear hk1 hkk ci HK0 HG0 hg1
     have hmem:∀ (W:World) (H:Nat),W.cell? ⟨H,0,none⟩=some (.slice pa pl pc)→Kept NoB w1 W→Calls Tryz.prog 17 #[.agg #[.bool false,.bool false,.bool sb,.slice none 0 0,.string (strB nm),.string ⟨#[]⟩,.int .i64 0,.int .i64 0,.int .i64 (i:Int)],.int .i64 (i:Int),.slice (some ⟨H,0,none⟩) 1 1] W fun e w'=>∃ (a2:Option Addr) (m c2:Nat) (body:List UInt8) (qs:List (Nat × Nat)),e = .returned (.tuple #[.slice a2 m c2,.bool true])∧Hid (BySt w1 w' a2 m c2 (memB (manyG i nm) (un p) body))∧Hid (PackedP (i:Int) (un p) (nb body) qs):=by
      intro W H hc hk
      have hkw:=HKk.out.trans hk
      have hup:(un p).length=pl:=by rw [HPle.out,← nb_len,nb_un HPall.out]
      have h:=member_yes W none 0 (manyG i nm) (i:Int) H 1 [un p] (manyG_ok i nm (by omega) HNm.out.1 HNm.out.2) ⟨fun _=>rfl,fun a e=>by cases e⟩ (Nat.le_refl _) (fun _=>rfl) rfl (by decide) (fun W2 h2 j hj=>by
       have hj0:j=0:=by omega
       subst hj0
       refine ⟨pa,pc,?_,?_,HPn.out,?_,HPm.out⟩
       ·rw [h2.cell hc];show _=some (Value.slice pa (un p).length pc);rw [hup]
       ·show Reads W2 pa (nb (un p));rw [nb_un HPall.out];exact HPrd.out.keptNo (hkw.trans h2)
       ·show (un p).length≤pc;rw [hup];exact hpl) (by show ((un p)++[]).length≤32768;rw [List.append_nil,hup];omega) (HT.out.kept hkw) (by omega)
      have e:gzV none 0 (manyG i nm)=#[.bool false,.bool false,.bool sb,.slice none 0 0,.string (strB nm),.string ⟨#[]⟩,.int .i64 0,.int .i64 0,.int .i64 (i:Int)]:=by
       rw [HSb.out];rfl
      have ef:([un p]:List (List UInt8)).flatten=un p:=by simp
      rw [e,ef] at h
      refine h.mono ?_
      rintro e2 w' ⟨a2,m,c2,body,qs,rfl,hb,hp⟩
      exact ⟨a2,m,c2,body,qs,rfl,Hd (hb.out.rebase hk),hp⟩
     have HMem:=Hd hmem
     clear hmem hx1
     have hinr:i < nr:=by omega
     have hal:=((Kept.refl NoB w1).alloc (Obj.cells #[.slice pa pl pc] 22)).obj HG1.out (fun h=>h)
     have e0:(w1.alloc (Obj.cells #[.slice pa pl pc] 22)).cell? ⟨X,0,none⟩=some (.bool false):=obj_cell hal 0
     have e1:(w1.alloc (Obj.cells #[.slice pa pl pc] 22)).cell? ⟨X,1,none⟩=some (.bool false):=obj_cell hal 1
     have e2:(w1.alloc (Obj.cells #[.slice pa pl pc] 22)).cell? ⟨X,2,none⟩=some (.bool sb):=obj_cell hal 2
     have e3:(w1.alloc (Obj.cells #[.slice pa pl pc] 22)).cell? ⟨X,3,none⟩=some (.slice none 0 0):=obj_cell hal 3
     have e4:(w1.alloc (Obj.cells #[.slice pa pl pc] 22)).cell? ⟨X,4,none⟩=some (.string (strB nm)):=obj_cell hal 4
     have e5:(w1.alloc (Obj.cells #[.slice pa pl pc] 22)).cell? ⟨X,5,none⟩=some (.string ⟨#[]⟩):=obj_cell hal 5
     have e6:(w1.alloc (Obj.cells #[.slice pa pl pc] 22)).cell? ⟨X,6,none⟩=some (.int .i64 0):=obj_cell hal 6
     have e7:(w1.alloc (Obj.cells #[.slice pa pl pc] 22)).cell? ⟨X,7,none⟩=some (.int .i64 0):=obj_cell hal 7
     have e8:(w1.alloc (Obj.cells #[.slice pa pl pc] 22)).cell? ⟨X,8,none⟩=some (.int .i64 (i:Int)):=obj_cell hal 8
     clear hal
     have q0:w1.cell? ⟨X,0,none⟩=some (.bool false):=obj_cell HG1.out 0
     have q1:w1.cell? ⟨X,1,none⟩=some (.bool false):=obj_cell HG1.out 1
     have q2:w1.cell? ⟨X,2,none⟩=some (.bool sb):=obj_cell HG1.out 2
     have q3:w1.cell? ⟨X,3,none⟩=some (.slice none 0 0):=obj_cell HG1.out 3
     have q4:w1.cell? ⟨X,4,none⟩=some (.string (strB nm)):=obj_cell HG1.out 4
     have q5:w1.cell? ⟨X,5,none⟩=some (.string ⟨#[]⟩):=obj_cell HG1.out 5
     have q6:w1.cell? ⟨X,6,none⟩=some (.int .i64 0):=obj_cell HG1.out 6
     have q7:w1.cell? ⟨X,7,none⟩=some (.int .i64 0):=obj_cell HG1.out 7
     have q8:w1.cell? ⟨X,8,none⟩=some (.int .i64 (i:Int)):=obj_cell HG1.out 8
     go_upto_region 13 with fail
     go_cut [13,14] from 58 to 68 (fun v13 v14 wx=>∃ (a2:Option Addr) (m c2:Nat) (body:List UInt8) (qs:List (Nat × Nat)),v13 = .slice a2 m c2∧v14 = .bool true∧Hid (BySt w1 wx a2 m c2 (memB (manyG i nm) (un p) body))∧Hid (PackedP (i:Int) (un p) (nb body) qs))
     case first=>
      go_region_with (go_at_call 17;((with_reducible refine (HMem.out _ _ ?_ ?_).mono ?_);(exact obj_cell (heap_alloc_new _ _) 0);(exact (((Kept.refl NoB w1).drewN _).alloc _));rintro e wn ⟨a2,m,c2,body,qs,rfl,hbb,hpp⟩))
      all_goals (go_wp2_with fail;go_meet;exact ⟨a2,m,c2,body,qs,rfl,rfl,hbb,hpp⟩)
     case rest=>
      obtain ⟨a2,m,c2,body,qs,rfl,rfl,HB,HPk⟩:=hcut
      obtain ⟨w3,rfl⟩:∃ z,z=wc:=⟨_,rfl⟩
      clear e0 e1 e2 e3 e4 e5 e6 e7 e8 q0 q1 q2 q3 q4 q5 q6 q7 q8 HMem
      have HK3:=Hd HB.out.kept
      have HKw3:=Hd (HKk.out.trans HK3.out)
      have ci3:=HK3.out.cell ci1
      have HI3:=Hd (HI.out.no (HK1.out.trans HK3.out))
      have HG3:=Hd (HK3.out.obj HG1.out (fun h=>h))
      obtain ⟨gb,hgb⟩:=HB.out.some (by intro e;have:=congrArg List.length e;simp [memB,leB_len] at this)
      subst hgb
      have hup:(un p).length=pl:=by rw [HPle.out,← nb_len,nb_un HPall.out]
      have HUp:=Hd hup
      have hm160:m≤160:=by rw [HB.out.len];exact mem_len HNm.out.1 HPk.out (by rw [hup];omega)
      have hl7:l7≤160*i:=HI3.out.few
      clear ci1 hup
      go_upto_region 17 with ((refine wpList_by_rowK rfl (.tmp 71) (.tmp 72) rfl HI3.out.ob rfl ⟨gb,0,none⟩ c2 m _ HB.out.len rfl HB.out.reads (by omega) ?_);intro a8 c8 w4 hb4 hk4;have HB4:=Hd hb4;have HK4:=Hd hk4;clear hb4 hk4)
      have HKw4:=Hd HB4.out.kept
      have ci4:=HKw4.out.cell HC0.out
      have e4:gzV none 0 (manyG i nm)=#[.bool false,.bool false,.bool sb,.slice none 0 0,.string (strB nm),.string ⟨#[]⟩,.int .i64 0,.int .i64 0,.int .i64 (i:Int)]:=by
       rw [HSb.out];rfl
      have HG4:=Hd (HI3.out.ob.keepT HK4.out HG3.out (by decide))
      rw [← e4] at HG4
      have hs4:=HI3.out.hs.keptS HK4.out (fun k e=>HI3.out.hs.ne HI3.out.ob k e)
      have HS4:=Hd hs4
      have hhl:hl≤100000:=by have h1:=HI3.out.hs.len;rw [HI3.out.el,List.length_map,HI3.out.len] at h1;omega
      obtain ⟨S,hS⟩:∃ S,S=strB (un p):=⟨_,rfl⟩
      have hcv:(convert 22 9 (.slice pa pl pc)).run Tryz.prog w4 = .ok (.string S) w4:=by
       rw [hS,← nb_strG]
       exact conv_reads (by rw [nb_un HPall.out];exact HPrd.out.keptNo HKw4.out) (by rw [nb_len,HUp.out]) HPn.out
      have hS8:S.size≤100:=by rw [hS,strB_size,HUp.out];omega
      have hW8:W8.size≤600:=by rw [HW8.out,strB_size];have:=HI3.out.lens;omega
      have HSe:=Hd hS
      have hlo4:w.heap.size≤(w4.alloc (.cells (gzV none 0 (manyG i nm)) 42)).heap.size:=by
       have h1:=HKw4.out.size
       simp;omega
      have HS5:=Hd (HS4.out.no ((Kept.refl NoB w4).alloc (.cells (gzV none 0 (manyG i nm)) 42)))
      have HB5:=Hd (HB4.out.on ((Kept.refl NoB w4).alloc (.cells (gzV none 0 (manyG i nm)) 42)))
      have HLo:=Hd hlo4
      clear hS hs4 hlo4 HK4 ci3 e4
      go_upto_region 18 with fail
      go_upto_region 7 with (first
       | (refine wpList_load_row rfl 42 (.tmp 12) rfl X rfl 42 (gzV none 0 (manyG i nm)) (0,0) _ HG4.out Tryz.underlying42 rfl infoGz ?_)
       | (refine wpList_build_one rfl (.tmp 82) rfl none 0 (manyG i nm) rfl ?_)
       | (at_builtin;refine wpList_gz rfl (.tmp 81) (.tmp 83) rfl HS5.out HLo.out rfl w4.heap.size 1 ⟨none,0,manyG i nm⟩ rfl (heap_alloc_new _ _) hhl ?_;intro h6 c6 w6 hS6 hk6 hr6;have HS6:=Hd hS6;have HB6:=Hd (HB5.out.over hS6 HS5.out (Nat.le_refl _) hk6);clear hS6 hk6 hr6))
      have hnew:ManyI w w6 (i+1) (ms++[⟨manyG i nm,un p,body⟩]) a8 (l7+m) c8 h6 (hl+1) c6 (es++[⟨none,0,manyG i nm⟩]):=by
       have hI:=HI.out
       refine ⟨by simp [hI.len],fun y hy=>?_,?_,?_,by omega,HS6.out,?_,fun y hy=>?_⟩
       ·rcases List.mem_append.1 hy with h | h
        ·exact hI.ok y h
        ·rw [List.mem_singleton.1 h];exact mm_ok (manyG_ok i nm (by omega) HNm.out.1 HNm.out.2) HPk.out (by rw [HUp.out];omega)
       ·have h1:=hI.lens
        have h2:=HUp.out
        simp only [List.map_append,List.map_cons,List.map_nil,List.flatten_append,List.flatten_cons,List.flatten_nil,List.append_nil,List.length_append]
        omega
       ·have h1:=HB6.out
        simp only [List.map_append,List.map_cons,List.map_nil,List.flatten_append,List.flatten_cons,List.flatten_nil,List.append_nil]
        exact h1
       ·rw [hI.el];simp
       ·rcases List.mem_append.1 hy with h | h
        ·exact hI.xn y h
        ·rw [List.mem_singleton.1 h];rfl
      have HNew:=Hd hnew
      have HW8b:Hid (W8++S=strB ((ms++[(⟨manyG i nm,un p,body⟩:Mm)]).map (·.L)).flatten):=Hd (by
       rw [HW8.out,HSe.out,strB_app]
       simp)
      clear hnew HS5 HB5 HS6 HB6 HB4 HG4 HS4 HI3 HB HG3
      go_wp2
      go_roundw
      case rel=>exact ⟨i+1,_,a8,l7+m,c8,h6,hl+1,c6,_,W8++S,rfl,rfl,rfl,by go_num,by omega,HW8b,HNew⟩
      case measure=>simp [intOf];omega
  ·have hiK2:i=K:=by omega
   subst hiK2
   clear hi hiK
   by_cases hi0:i=0
   ·have hb0:((i:Int) == 0)=true:=by rw [beq_iff_eq];omega
    have HI0:=Hd hi0
    clear hi0
    go_wp2_with fail
    refine (HAw.out _).mono ?_
    rintro e w2 ⟨rfl,hk2⟩
    have HK2:=Hd (HI.out.ob.kept.trans hk2)
    clear hk2
    go_wp2
    go_ret
    exact ⟨rfl,HK2.out.belowNo (Below.refl _ _)⟩
   ·have hb0:((i:Int) == 0)=false:=by rw [beq_eq_false_iff_ne];omega
    have hipos:0 < i:=by omega
    obtain ⟨Z,hZ⟩:∃ Z:Nat,Z=(x % 16).toNat:=⟨_,rfl⟩
    have hZ15:Z≤15:=by omega
    have hmk:bits .and .i64 x 15=(Z:Int):=by
     have:=i64_mask x 4 (by decide)
     rw [hZ]
     exact this.trans (by show x % 16=_;omega)
    have hl7:l7≤960:=by have:=HI.out.few;omega
    have hne:ms≠[]:=by intro e;have:=HI.out.len;rw [e] at this;simp at this;omega
    have hob:BySt w wr a7 l7 c7 (mems ms):=HI.out.ob
    have hmp:mems ms≠[]:=by
     obtain ⟨i1,a1,he⟩:=snoc_ex hne
     intro e
     have:=congrArg List.length e
     rw [he,mems_snoc,List.length_append] at this
     simp [memB,leB_len] at this
    obtain ⟨gb,hgb⟩:=hob.some hmp
    subst hgb
    obtain ⟨L,hL⟩:∃ L,L=(ms.map (·.L)).flatten:=⟨_,rfl⟩
    have hLl:L.length≤600:=by have:=HI.out.lens;rw [hL];omega
    have hW8:W8.size=L.length:=by rw [HW8.out,strB_size,hL]
    have hLi:(L.length:Int)=((L.length:Nat):Int):=rfl
    have HOb:=Hd hob;have HNe:=Hd hne;have HMp:=Hd hmp;have HL:=Hd hL
    have HBE:=Hd (by_empty (Kept.refl NoB wr))
    clear hi0 hZ hob hne hmp hL
    go_upto_region 22 with (first
     | (at_builtin;refine wpList_by_rowK rfl (.tmp 89) (.tmp 90) rfl HBE.out rfl ⟨gb,0,none⟩ c7 l7 (mems ms) HOb.out.len rfl (HOb.out.reads.keptNo ((Kept.refl NoB wr).alloc _)) (by omega) ?_;intro a8 c8 w4 hb4 hk4;rw [Nat.zero_add,List.nil_append] at hb4;have HB4:=Hd hb4;clear hb4 hk4)
     | (at_builtin;(refine wpList_by_zeros rfl (.tmp 91) (.tmp 93) rfl HB4.out ?_ ?_ Z ?_ ?_ ?_ ?_);(exact HMp.out);rfl;rfl;omega;omega;intro a9 c9 w5 hb5;have HB5:=Hd hb5;clear hb5))
    have hg1:GoG (nb (mems ms++List.replicate Z 0)) L.length 0 [] [] 0 0 L (ms.map (·.g)):=by
     have h:=go_rows (M:=L.length) (k:=Z) ms [] [] [] HNe.out HI.out.ok (by rw [HL.out];show 0+_≤_;omega)
     rw [← HL.out] at h
     simpa [nb,mems] using h
    have hcall:=gzall_any w5 a9 (l7+Z) c9 _ (L.length:Int) L.length 0 0 L (ms.map (·.g)) (by rw [nb_len];exact HB5.out.len) (CurRow.ofBy HB5.out) (by omega) rfl (by omega) hg1
    have HCall:=Hd hcall
    clear hg1 hcall
    refine HCall.out.mono ?_
    rintro e w6 ⟨oa,ol,oc,h2,hl2,hc2,es2,rfl,HG6,HM6⟩
    have hol:ol=L.length:=HG6.out.ob.len
    have hl2i:hl2=i:=by
     have h1:=congrArg List.length HM6.out
     rw [List.length_map,List.length_map,HI.out.len] at h1
     rw [HG6.out.hs.len,h1]
    have hli:hl=i:=by rw [HI.out.hs.len,HI.out.el,List.length_map,HI.out.len]
    subst hl2i
    subst hli
    have hcv:(convert 22 9 (.slice oa ol oc)).run Tryz.prog w6 = .ok (.string W8) w6:=by
     rw [HW8.out,← HL.out]
     exact conv_by HG6.out.ob
    have HK6:=Hd (HB5.out.kept.trans HG6.out.ob.kept)
    have HKw6:=Hd (HOb.out.kept.trans HK6.out)
    have HOb6:=Hd (HOb.out.on HK6.out)
    have HHs6:=Hd (HI.out.hs.no HK6.out)
    have HHl:=Hd hol
    clear hol HCall
    go_wp2_with fail
    go_loopw [19] (fun v19 wq=>∃ j:Nat,v19 = .int .i64 (j:Int)∧j≤hl∧Hid (Kept NoB w6 wq)) (fun v19 _=>6 - (intOf v19).toNat)
    case atStart=>exact ⟨0,rfl,Nat.zero_le _,Hd (Kept.refl _ _)⟩
    case round=>
     obtain ⟨j,rfl,hj,HKq⟩:=hrel
     by_cases hjl:j < hl
     ·have hes:=HI.out.el
      subst hes
      have hje:j < ms.length:=by rw [HI.out.len];exact hjl
      have hje2:j < es2.length:=by rw [← HG6.out.hs.len];exact hjl
      obtain ⟨gA,hgA,hcA⟩:=(HHs6.out.no HKq.out).cell j (by rw [List.length_map];exact hje)
      obtain ⟨gB,hgB,hcB⟩:=(HG6.out.hs.no HKq.out).cell j hje2
      subst hgA
      subst hgB
      have hgq:(es2[j]).g=(ms[j]).g:=by
       have h:=List.getElem_of_eq HM6.out (i:=j) (by rw [List.length_map];exact hje2)
       simpa using h
      have hen:=HG6.out.en (es2[j]) (List.getElem_mem hje2)
      have hxn:=HI.out.xn (ms[j]) (List.getElem_mem hje)
      rw [List.getElem_map] at hcA
      rw [hgq] at hcB
      have hya:=hen.nil
      generalize (es2[j]).a=ya at hcB hya
      generalize (es2[j]).k=yk at hcB hya
      generalize (ms[j]).g=gj at hcA hcB hxn
      have hsame:∀ W:World,Calls Tryz.prog 19 #[.agg (gzV ya yk gj),.agg (gzV none 0 gj)] W fun e w'=>e = .returned (.bool true)∧Kept NoB W w':=fun W=>samegz_yes W ya yk none 0 gj (reads_nilG (by rw [hxn];rfl)) hya (reads_nilG (by rw [hxn];rfl)) (fun _=>rfl)
      obtain ⟨gt,gx,gs,gE,gN,gC,gtm,gxf,gos⟩:=gj
      dsimp only at hxn
      subst hxn
      have a0:wr.cell? ⟨gA,j*9,none⟩=some (.bool gt):=hcA 0 (by decide)
      have a1:wr.cell? ⟨gA,j*9+1,none⟩=some (.bool gx):=hcA 1 (by decide)
      have a2:wr.cell? ⟨gA,j*9+2,none⟩=some (.bool gs):=hcA 2 (by decide)
      have a3:wr.cell? ⟨gA,j*9+3,none⟩=some (.slice none 0 0):=hcA 3 (by decide)
      have a4:wr.cell? ⟨gA,j*9+4,none⟩=some (.string (strB gN)):=hcA 4 (by decide)
      have a5:wr.cell? ⟨gA,j*9+5,none⟩=some (.string (strB gC)):=hcA 5 (by decide)
      have a6:wr.cell? ⟨gA,j*9+6,none⟩=some (.int .i64 gtm):=hcA 6 (by decide)
      have a7:wr.cell? ⟨gA,j*9+7,none⟩=some (.int .i64 gxf):=hcA 7 (by decide)
      have a8:wr.cell? ⟨gA,j*9+8,none⟩=some (.int .i64 gos):=hcA 8 (by decide)
      have b0:wr.cell? ⟨gB,j*9,none⟩=some (.bool gt):=hcB 0 (by decide)
      have b1:wr.cell? ⟨gB,j*9+1,none⟩=some (.bool gx):=hcB 1 (by decide)
      have b2:wr.cell? ⟨gB,j*9+2,none⟩=some (.bool gs):=hcB 2 (by decide)
      have b3:wr.cell? ⟨gB,j*9+3,none⟩=some (.slice ya 0 yk):=hcB 3 (by decide)
      have b4:wr.cell? ⟨gB,j*9+4,none⟩=some (.string (strB gN)):=hcB 4 (by decide)
      have b5:wr.cell? ⟨gB,j*9+5,none⟩=some (.string (strB gC)):=hcB 5 (by decide)
      have b6:wr.cell? ⟨gB,j*9+6,none⟩=some (.int .i64 gtm):=hcB 6 (by decide)
      have b7:wr.cell? ⟨gB,j*9+7,none⟩=some (.int .i64 gxf):=hcB 7 (by decide)
      have b8:wr.cell? ⟨gB,j*9+8,none⟩=some (.int .i64 gos):=hcB 8 (by decide)
      have hs2:∀ W:World,Kept NoB wr W→Calls Tryz.prog 19 #[.agg #[.bool gt,.bool gx,.bool gs,.slice ya 0 yk,.string (strB gN),.string (strB gC),.int .i64 gtm,.int .i64 gxf,.int .i64 gos],.agg #[.bool gt,.bool gx,.bool gs,.slice none 0 0,.string (strB gN),.string (strB gC),.int .i64 gtm,.int .i64 gxf,.int .i64 gos]] W fun e w'=>e = .returned (.bool true)∧Hid (Kept NoB wr w'):=fun W hk=>(hsame W).mono (fun e w' h=>⟨h.1,Hd (hk.trans h.2)⟩)
      have HSame:=Hd hs2
      have HKq2:=HKq
      clear hcA hcB hsame hs2 hen hgq hje hje2 hya
      have hjI:(j:Int) < (hl:Int):=by omega
      go_upto_region 27 with fail
      go_cut [130] from 121 to 130 (fun v130 wx=>v130 = .bool false∧Hid (Kept NoB wr wx))
      case first=>
       go_region_with (go_at_call 19;((with_reducible refine (HSame.out _ ?_).mono ?_);(exact ((Kept.refl NoB wr).drewN _));rintro e wn ⟨rfl,hkn⟩))
       all_goals (go_wp2_with fail;go_meet;exact ⟨rfl,hkn⟩)
      case rest=>
       obtain ⟨rfl,hkn⟩:=hcut
       clear a0 a1 a2 a3 a4 a5 a6 a7 a8 b0 b1 b2 b3 b4 b5 b6 b7 b8 HSame
       go_wp2
       go_roundw
       case rel=>exact ⟨j+1,by go_num,by omega,Hd (HKq2.out.trans hkn.out)⟩
       case measure=>simp [intOf];omega
     ·have hjh:j=hl:=by omega
      obtain ⟨w7,rfl⟩:∃ z,z=wr:=⟨_,rfl⟩
      obtain ⟨q7,hq7⟩:∃ q:Nat,q=l7 - 1:=⟨_,rfl⟩
      obtain ⟨q9,hq9⟩:∃ q:Nat,q=l7+2:=⟨_,rfl⟩
      have hl7p:0 < l7:=by rw [HOb.out.len];exact List.length_pos_iff.2 HMp.out
      have h71:(l7:Int) - 1=(q7:Int):=by omega
      have h72:(l7:Int)+2=(q9:Int):=by omega
      have HOb7:=Hd (HOb6.out.on HKq.out)
      have hbc:=HOb7.out.cap
      obtain ⟨o1,hs1,hp1⟩:=slg_h (some ⟨gb,0,none⟩) l7 c7 q7 (nb (mems ms)) (by rw [nb_len];exact HOb7.out.len) (by omega) hbc.1 hbc.2.2
      have hrd:=hp1.reads w7 HOb7.out.reads
      rw [List.drop_zero,Nat.sub_zero] at hrd
      have hlt:q7=((nb (mems ms)).take q7).length:=by rw [List.length_take,nb_len,← HOb7.out.len];omega
      have hsh:GoG ((nb (mems ms)).take q7) L.length 0 [] [] q7 2 L (ms.map (·.g)):=by
       have h:=go_short (M:=L.length) ms HNe.out HI.out.ok (by rw [HL.out];exact Nat.le_refl _)
       rw [← HOb7.out.len,← hq7,← HL.out] at h
       exact h
      have hc1:=gzall_any w7 o1 q7 c7 _ (L.length:Int) L.length q7 2 L (ms.map (·.g)) hlt ⟨hrd,fun y hy=>nb_all _ y (List.mem_of_mem_take hy),by rw [← hlt];omega,hbc.2.1,fun h=>absurd (hp1.nil.1 h) (by simp)⟩ (by omega) rfl (by omega) hsh
      have HC1:=Hd hc1;have HQ7:=Hd hq7;have HQ9:=Hd hq9
      have HKw7:=Hd (HKw6.out.trans HKq.out)
      clear hrd hlt hsh hc1 hp1 hbc hq7 hq9
      go_wp2_with fail
      refine HC1.out.mono ?_
      rintro e w8 ⟨oa1,ol1,oc1,h1,hl1,hc1,es1,rfl,HG1,HM1⟩
      have HKw8:=Hd (HKw7.out.trans HG1.out.ob.kept)
      have HOb8:=Hd (HOb7.out.on HG1.out.ob.kept)
      have HBE8:=Hd (by_empty (Kept.refl NoB w8))
      have HL3:=Hd (by_lit (Kept.refl NoB w8) [0,0,7] #[.int .u8 0,.int .u8 0,.int .u8 7] rfl 3 rfl (by decide))
      go_upto_region 31 with (first
       | (at_builtin;refine wpList_by_rowK rfl (.tmp 145) (.tmp 146) rfl HBE8.out rfl ⟨gb,0,none⟩ c7 l7 (mems ms) HOb8.out.len rfl (HOb8.out.reads.keptNo ((Kept.refl NoB w8).alloc _)) (by omega) ?_;intro aa ca wa hba hka;rw [Nat.zero_add,List.nil_append] at hba;have HBa:=Hd hba;have HL3:=Hd (by_lit (Kept.refl NoB wa) [0,0,7] #[.int .u8 0,.int .u8 0,.int .u8 7] rfl 3 rfl (by decide));clear hba hka)
       | (at_builtin;refine wpList_by_rowK rfl (.tmp 147) (.tmp 148) rfl (HBa.out.on HL3.out.kept) rfl ⟨wa.heap.size,0,none⟩ 3 3 [0,0,7] rfl rfl HL3.out.reads (by omega) ?_;intro ab cb wb hbb hkb;have HBb:=Hd hbb;clear hbb hkb))
      have hju:GoG (nb (mems ms++[0,0,7])) L.length 0 [] [] q9 8 L (ms.map (·.g)):=by
       have h:=go_junk (M:=L.length) ms HNe.out HI.out.ok (by rw [HL.out];exact Nat.le_refl _)
       rw [← HOb8.out.len,← HQ9.out,← HL.out] at h
       rw [nb_app]
       exact h
      have hc2:=gzall_any wb ab (l7+3) cb _ (L.length:Int) L.length q9 8 L (ms.map (·.g)) (by rw [nb_len];exact HBb.out.len) (CurRow.ofBy HBb.out) (by omega) rfl (by omega) hju
      have HC2:=Hd hc2
      have HKwb:=Hd (HKw8.out.trans HBb.out.kept)
      clear hju hc2
      refine HC2.out.mono ?_
      rintro e wz ⟨oa2,ol2,oc2,h3,hl3,hc3,es3,rfl,HG2,HM2⟩
      have HKwz:=Hd (HKwb.out.trans HG2.out.ob.kept)
      have HAz:=Hd (HAw.out wz)
      clear HC2 HC1
      go_wp2_with fail
      refine HAz.out.mono ?_
      rintro e wy ⟨rfl,hky⟩
      have HKy:=Hd (HKwz.out.trans hky)
      clear hky
      go_wp2
      go_ret
      exact ⟨rfl,HKy.out.belowNo (Below.refl _ _)⟩
theorem gzipMany_law (v0 v1 v2:Value)(w:World)(r0:Arg w 38 v0)(r1:Arg w 39 v1)(r2:Arg w 3 v2)(hT:DeB w):Calls Tryz.prog 6 #[v0,v1,v2] w fun e w'=>e = .returned (.bool true)∧Below w.heap.size w w':=by
 obtain ⟨ao,cap,ps,rfl,h1,h2,h3⟩:=parts_open r0
 obtain ⟨no_,nc,ns,rfl,k1,k2,k3,_,_⟩:=r1.strs
 obtain ⟨x,rfl,_⟩:=Arg.int Tryz.underlying3 r2
 exact gzipMany_walk ao cap ps no_ nc ns x w hT h1 h2 h3 k3 (by omega) _ _ rfl rfl
end Go.Proofs.YtfmjfgmbjdhogaaGreatDoor
