import Derived.Test.YtfmjfgmbjdhogaaGreatDoorMb20
import Derived.Deep.RegionWith
set_option linter.unusedVariables false
set_option linter.unusedSimpArgs false
set_option maxRecDepth 20000
set_option maxHeartbeats 8000000
namespace Go.Proofs.YtfmjfgmbjdhogaaGreatDoor
open Go.RowKit
theorem Snk.objGrown {w w':World}{T:TypeId}{cs:Array Value}{R L:Nat}{ao:Option Addr}{cap:Nat}{bs:List Int}{m:Nat}(h:Snk w T cs R L ao cap bs m)(hg:w.grownBy w' (Value.slice ao bs.length cap).ownBlock):w'.heap[R]?=some (.cells cs T (0,0)):=by
 rw [hg.block R (obj_lt h.obj) (fun e=>row_ne h.own h.obj h.ne5 R e.symm rfl)]
 exact h.obj
theorem wr_step {w wr wn w':World}{T:TypeId}{cs cs1:Array Value}{R L m x:Nat}{v0:Value}{ao1:Option Addr}{cap1:Nat}{fj:List Int}{ao2:Option Addr}{cap2:Nat}{fs p:List Int}
  (hS:Snk wr T cs1 R L ao1 cap1 fj m) (hK:Kept (OrB (OneB R) (OwnB v0)) w wr) (hO:∀ k,(Value.slice ao1 fj.length cap1).ownBlock=some k→v0.ownBlock=some k∨w.heap.size≤k)
  (hcs:∀ i,i≠0→cs1[i]?=cs[i]?) (hcz:cs1.size=cs.size) (hkn:Kept NoB wr wn)
  (hown:w'.ownsRow 0 5 1 (.slice ao2 (fj.length+x) cap2) (fj.length+x) (fj.map (.int .u8)++p.map (.int .u8))) (hg:wn.grownBy w' (Value.slice ao1 fj.length cap1).ownBlock)
  (hnew:∀ k,(Value.slice ao2 (fj.length+x) cap2).ownBlock=some k→(Value.slice ao1 fj.length cap1).ownBlock=some k∨wn.heap.size≤k) (hx:p.length=x) (hfs:fs=fj++p) (hfm:fs.length≤m) (hsm:fs.length≤1000000) (hall:AllB fs):
  WrR w T cs R L v0 fs m (w'.setCell ⟨R,0,none⟩ (.slice ao2 (fj.length+x) cap2)):=by
 subst hfs hx
 have hSn:=hS.keptNo hkn
 have oR:=hSn.objGrown hg
 have hs1:=hK.size
 have hs2:=hkn.size
 have hRl:=obj_lt hS.obj
 have h0:0 < cs1.size:=(Array.getElem?_eq_some_iff.1 hS.c0).1
 rw [← List.map_append,← List.length_append] at hown
 rw [← List.length_append] at hnew ⊢
 have hne:=row_ne hown oR hS.ne5
 refine ⟨cs1.setIfInBounds 0 (.slice ao2 (fj++p).length cap2),ao2,cap2,⟨obj_set oR 0 _,?_,?_,?_,?_,hS.low,hfm,hS.ml,hsm,hS.ne5,hall⟩,by simpa using hcz,?_,?_,?_⟩
 ·simp [h0]
 ·have:=hS.c1;simpa using this
 ·exact (Kept.setCell (S:=OneB R) (p:=⟨R,0,none⟩) (Kept.refl _ w') (.inl rfl) _).row hown (fun k hk e=>hne k hk e)
 ·intro k hk
  rcases hnew k hk with h | h
  ·exact hS.fr k h
  ·have:=hS.low;omega
 ·intro i hi
  rw [Array.getElem?_setIfInBounds_ne (by omega)];exact hcs i hi
 ·refine Kept.setCell (p:=⟨R,0,none⟩) ?_ (.inl (.inl rfl)) _
  refine Kept.grown (hK.trans (hkn.mono (fun _ _ h=>h.elim))) hg ?_
  intro k hk e
  rcases hO k e with h | h
  ·exact .inr h
  ·omega
 ·intro k hk
  rcases hnew k hk with h | h
  ·exact hO k h
  ·right;omega
set_option maxRecDepth 100000 in
theorem swrite_any (w : World) {T : TypeId} {cs : Array Value} {R L : Nat} {ao : Option Addr} {cap : Nat} {bs : List Int} {m : Nat} (h : Snk w T cs R L ao cap bs m)
    (po : Option Addr) (pcap len : Nat) (ps : List (List Int)) (hlen : ps.length = len) (hall : AllP ps) (hp : ∀ W, Kept (OrB (OneB R) (OwnB (.slice ao bs.length cap))) w W → Parts W po ps)
    (hsm : (bs ++ ps.flatten).length ≤ 1000000) (hm : len ≤ 1000000) :
    Calls Tryz.prog 174 #[.pointer (some ⟨R, 0, none⟩), .slice po len pcap] w fun e w' => e = .returned (.int .i64 ((fill bs m ps).length - bs.length)) ∧ WrR w T cs R L (.slice ao bs.length cap) (fill bs m ps) m w' := by
  obtain ⟨i0, hi, hz0, hz1, hz2⟩ := info_parts info5
  have H := Hd h; have HLen := Hd hlen; have HAll := Hd hall; have HP := Hd hp; have HSm := Hd hsm
  have c0 : w.cell? ⟨R, 0, none⟩ = some (.slice ao bs.length cap) := by rw [obj_cell h.obj 0, h.c0]
  have hsm0 := h.sm
  clear h hlen hall hp hsm
  go_enter Tryz.func174, Tryz.ntmps174
  go_wp2
  clear c0
  go_loopw [15] (fun i wr => ∃ j : Nat, j ≤ len ∧ i = .int .i64 j ∧ WrR w T cs R L (.slice ao bs.length cap) (fill bs m (ps.take j)) m wr) (fun i _ => len - (intOf i).toNat)
  case atStart => exact ⟨0, by omega, rfl, by rw [List.take_zero, fill_nil _ _ H.out.bl]; exact ⟨cs, ao, cap, H.out, rfl, (fun _ _ => rfl), Kept.refl _ _, fun k hk => .inl hk⟩⟩
  case round =>
    obtain ⟨j, hj, rfl, hW⟩ := hrel
    obtain ⟨cs1, ao1, cap1, hS, hcz, hcs, hK, hO⟩ := hW
    by_cases hlt : j < len
    · have hjp : j < ps.length := by have := HLen.out; omega
      rcases HP.out _ hK with h0 | ⟨b, off, rfl, hbl, hc⟩
      · rw [h0] at hjp; simp at hjp
      obtain ⟨pa, pc, d0, hrd, hlc, hpcm, hpn⟩ := hc j hjp
      have hpall := HAll.out.getD j
      have hfs := fill_succ bs m ps j hjp
      have hfsm : (fill bs m (ps.take (j + 1))).length ≤ 1000000 := by
        unfold fill
        rw [List.length_take, List.length_append]
        have h1 := HSm.out
        rw [List.length_append] at h1
        have h2 : (ps.take (j + 1)).flatten.length ≤ ps.flatten.length := by
          conv => rhs; rw [← List.take_append_drop (j + 1) ps, List.flatten_append, List.length_append]
          omega
        omega
      have hfall : AllB (fill bs m (ps.take (j + 1))) := by
        unfold fill
        intro x hx
        rcases List.mem_append.1 (List.mem_of_mem_take hx) with hx | hx
        · exact H.out.ball x hx
        · obtain ⟨p, hp, hx⟩ := List.mem_flatten.1 hx
          exact HAll.out p (List.mem_of_mem_take hp) x hx
      have hfl := fill_len bs m (ps.take (j + 1))
      obtain ⟨fj, hfj⟩ : ∃ fj, fj = fill bs m (ps.take j) := ⟨_, rfl⟩
      rw [← hfj] at hS hO hfs
      obtain ⟨part, hpart⟩ : ∃ part, part = ps.getD j [] := ⟨_, rfl⟩
      rw [← hpart] at d0 hrd hlc hpall hfs
      have HS := Hd hS; have HK := Hd hK; have HO := Hd hO; have HRd := Hd hrd; have HPa := Hd hpall; have HCs := Hd hcs; have HCz := Hd hcz
      have HFsm := Hd hfsm; have HFall := Hd hfall; have HFl := Hd hfl; have HPn := Hd hpn
      obtain ⟨r, hr⟩ : ∃ r : Nat, (r : Int) = (m : Int) - fj.length := ⟨m - fj.length, by have := HS.out.bl; omega⟩
      have HR := Hd hr
      have hr0 := HS.out.ml
      have hmr : m - fj.length = r := by omega
      rw [hmr] at hfs
      have hfr : fj.length + min r part.length ≤ 1000000 := by
        have h1 := hfsm
        rw [hfs, List.length_append, List.length_take] at h1
        exact h1
      have hfj0 := HS.out.sm
      have HFs := Hd hfs
      clear hS hK hO hrd hpall hcs hfs hfsm hfall hfl hpart hfj hc hcz hpn hjp hr hmr
      go_upto_region 5 with fail
      clear d0
      have hSd := HS.out.keptNo ((Kept.refl NoB wr).drew)
      have e0 : wr.cell? ⟨R, 0, none⟩ = some (.slice ao1 fj.length cap1) := by rw [obj_cell HS.out.obj 0, HS.out.c0]
      have hlft : Hid (∀ W, Kept NoB wr W → Calls Tryz.prog 154 #[.pointer (some ⟨R, 0, none⟩)] W fun e w' => e = .returned (.int .i64 r) ∧ Kept NoB W w') := fun W hk => sleft_any W (HS.out.keptNo hk) r HR.out
      by_cases hrl : (r : Int) < part.length
      · have hr0' : (0 : Int) ≤ r := by omega
        have hrc : (r : Int) ≤ pc := by omega
        cases pa with
        | none => have := HPn.out rfl; omega
        | some xa =>
          have htl : (part.take r).length = r := by rw [List.length_take]; omega
          have HTl := Hd htl; clear htl
          go_region_law (first
            | (go_simp; go_at_call 154; (with_reducible refine (hlft.out _ ((Kept.refl NoB wr).drew)).mono ?_); rintro e wn ⟨rfl, hkn⟩; have e0n : wn.cell? ⟨R, 0, none⟩ = some (.slice ao1 fj.length cap1) := hkn.cell e0)
            | (refine step_app rfl (.tmp 23) (.tmp 30) 22 rfl 5 i0 (.int .u8 0) 1 1 Tryz.underlying22 hi hz0 hz1 hz2 rfl (by decide) _ fj.length (fj.map (.int .u8)) rfl (hkn.row hSd.own (fun _ _ h => h)) xa r pc ((part.take r).map (.int .u8)) rfl (by rw [List.length_map, HTl.out]; omega) (reads_news (reads_take r ((HRd.out.keptNo ((Kept.refl NoB wr).drew)).keptNo hkn))) (news_one _) (by unfold maxLen; omega) (by omega) ?_
               intro v' w' hown' hgrow hnew
               obtain ⟨ao2, cap2, rfl⟩ := own_shape hown'
               have oR := (hSd.keptNo hkn).objGrown hgrow
               have g0 : w'.frozen? ⟨R, 0, none⟩ = false := obj_free oR 0
               have g1 : w'.cell? ⟨R, 0, none⟩ = some (.slice ao1 fj.length cap1) := by rw [obj_cell oR 0, HS.out.c0]))
          all_goals
            have hF := wr_step HS.out HK.out HO.out HCs.out HCz.out (((Kept.refl NoB wr).drew).trans hkn) hown' hgrow hnew HTl.out HFs.out HFl.out HFsm.out HFall.out
            have HF := Hd hF
            clear hF hown' hgrow hnew hkn oR g0 g1 e0n
            go_wp2
            go_roundw
            case rel => exact ⟨j + 1, by omega, by go_num, HF.out⟩
            case measure => simp [intOf]; omega
      · have hpt : part.take r = part := List.take_of_length_le (by omega)
        rw [hpt] at HFs
        have hp0 : (0 : Int) ≤ part.length := by omega
        have hpc : (part.length : Int) ≤ pc := by omega
        clear hpt
        cases pa with
        | none =>
          have hpe : part = [] := HRd.out.1 rfl
          have hpc0 : pc = 0 := HPn.out rfl
          subst hpe hpc0
          rw [List.append_nil] at HFs
          have hle0 : ([] : List Int).length = 0 := rfl
          rw [hle0]
          have hr0i : ¬ (r : Int) < 0 := by omega
          go_region_law (first
            | (go_simp; go_at_call 154; (with_reducible refine (hlft.out _ ((Kept.refl NoB wr).drew)).mono ?_); rintro e wn ⟨rfl, hkn⟩; have e0n : wn.cell? ⟨R, 0, none⟩ = some (.slice ao1 fj.length cap1) := hkn.cell e0; have f0n : wn.frozen? ⟨R, 0, none⟩ = false := obj_free (hSd.keptNo hkn).obj 0)
            | (refine step_app_none rfl (.tmp 23) (.tmp 30) 22 rfl 5 i0 1 Tryz.underlying22 hi _ fj.length (fj.map (.int .u8)) rfl (hkn.row hSd.own (fun _ _ h => h)) rfl ?_))
          all_goals
            have hown' := hkn.row hSd.own (fun _ _ h => h)
            have hF := wr_step (p := []) (x := 0) HS.out HK.out HO.out HCs.out HCz.out (((Kept.refl NoB wr).drew).trans hkn) (by simpa using hown') (World.grownBy.refl _ _) (fun k hk => .inl hk) rfl (HFs.out.trans (List.append_nil _).symm) HFl.out HFsm.out HFall.out
            rw [Nat.add_zero] at hF
            have HF := Hd hF
            clear hF hown' hkn e0n f0n
            go_wp2
            go_roundw
            case rel => exact ⟨j + 1, by omega, by go_num, HF.out⟩
            case measure => simp [intOf]; omega
        | some xa =>
          go_region_law (first
            | (go_simp; go_at_call 154; (with_reducible refine (hlft.out _ ((Kept.refl NoB wr).drew)).mono ?_); rintro e wn ⟨rfl, hkn⟩; have e0n : wn.cell? ⟨R, 0, none⟩ = some (.slice ao1 fj.length cap1) := hkn.cell e0)
            | (refine step_app rfl (.tmp 23) (.tmp 30) 22 rfl 5 i0 (.int .u8 0) 1 1 Tryz.underlying22 hi hz0 hz1 hz2 rfl (by decide) _ fj.length (fj.map (.int .u8)) rfl (hkn.row hSd.own (fun _ _ h => h)) xa part.length pc (part.map (.int .u8)) rfl (by rw [List.length_map]; omega) (reads_news ((HRd.out.keptNo ((Kept.refl NoB wr).drew)).keptNo hkn)) (news_one _) (by unfold maxLen; omega) (by omega) ?_
               intro v' w' hown' hgrow hnew
               obtain ⟨ao2, cap2, rfl⟩ := own_shape hown'
               have oR := (hSd.keptNo hkn).objGrown hgrow
               have g0 : w'.frozen? ⟨R, 0, none⟩ = false := obj_free oR 0
               have g1 : w'.cell? ⟨R, 0, none⟩ = some (.slice ao1 fj.length cap1) := by rw [obj_cell oR 0, HS.out.c0]))
          all_goals
            have hF := wr_step HS.out HK.out HO.out HCs.out HCz.out (((Kept.refl NoB wr).drew).trans hkn) hown' hgrow hnew rfl HFs.out HFl.out HFsm.out HFall.out
            have HF := Hd hF
            clear hF hown' hgrow hnew hkn oR g0 g1 e0n
            go_wp2
            go_roundw
            case rel => exact ⟨j + 1, by omega, by go_num, HF.out⟩
            case measure => simp [intOf]; omega
    · have hjl : j = len := by omega
      have ht : ps.take j = ps := List.take_of_length_le (by have := HLen.out; omega)
      rw [ht] at hS hO
      have d0 : wr.cell? ⟨R, 0, none⟩ = some (.slice ao1 (fill bs m ps).length cap1) := by rw [obj_cell hS.obj 0, hS.c0]
      have hsm1 := hS.sm
      have F : WrR w T cs R L (.slice ao bs.length cap) (fill bs m ps) m wr := ⟨cs1, ao1, cap1, hS, hcz, hcs, hK, hO⟩
      have HF := Hd F
      clear F hS hcz hcs hK hO ht
      obtain ⟨n, hn⟩ : ∃ n, n = (fill bs m ps).length := ⟨_, rfl⟩
      rw [← hn] at d0 hsm1
      have HN := Hd hn; clear hn
      go_wp2
      go_ret
      exact ⟨by rw [← HN.out]; rfl, HF.out⟩
structure IV where
 sk:Value
 most:Nat
 wn:Value
 rs:Value
 fr:Int
 sp:Int
 nx:Int
 la:Bool
 lf:Int
 li:Option Addr
 di:Option Addr
 fl:Option Addr
 fd:Option Addr
 us:Int
 at_:Int
 er:Int
def IV.cs (v:IV):Array Value:=#[v.sk,.int .i64 v.most,v.wn,v.rs,.int .i64 v.fr,.int .i64 v.sp,.int .i64 v.nx,.bool v.la,.int .i64 v.lf,.pointer v.li,.pointer v.di,.pointer v.fl,.pointer v.fd,.int .i64 v.us,.int .i64 v.at_,.int .i64 v.er]
def InfO (w:World)(D:Nat)(v:IV):Prop:=w.heap[D]?=some (.cells v.cs 111 (0,0))
section
variable {w w' : World} {D : Nat} {v : IV}
theorem InfO.kept {S:Nat→Prop}(h:InfO w D v)(hk:Kept S w w')(hs:¬ S D):InfO w' D v:=hk.obj h hs
theorem InfO.c0 (h:InfO w D v):w.cell? ⟨D,0,none⟩=some v.sk:=by rw [obj_cell h 0];rfl
theorem InfO.c1 (h:InfO w D v):w.cell? ⟨D,1,none⟩=some (.int .i64 v.most):=by rw [obj_cell h 1];rfl
theorem InfO.c2 (h:InfO w D v):w.cell? ⟨D,2,none⟩=some v.wn:=by rw [obj_cell h 2];rfl
theorem InfO.c3 (h:InfO w D v):w.cell? ⟨D,3,none⟩=some v.rs:=by rw [obj_cell h 3];rfl
theorem InfO.c4 (h:InfO w D v):w.cell? ⟨D,4,none⟩=some (.int .i64 v.fr):=by rw [obj_cell h 4];rfl
theorem InfO.c5 (h:InfO w D v):w.cell? ⟨D,5,none⟩=some (.int .i64 v.sp):=by rw [obj_cell h 5];rfl
theorem InfO.c6 (h:InfO w D v):w.cell? ⟨D,6,none⟩=some (.int .i64 v.nx):=by rw [obj_cell h 6];rfl
theorem InfO.c7 (h:InfO w D v):w.cell? ⟨D,7,none⟩=some (.bool v.la):=by rw [obj_cell h 7];rfl
theorem InfO.c8 (h:InfO w D v):w.cell? ⟨D,8,none⟩=some (.int .i64 v.lf):=by rw [obj_cell h 8];rfl
theorem InfO.c9 (h:InfO w D v):w.cell? ⟨D,9,none⟩=some (.pointer v.li):=by rw [obj_cell h 9];rfl
theorem InfO.c10 (h:InfO w D v):w.cell? ⟨D,10,none⟩=some (.pointer v.di):=by rw [obj_cell h 10];rfl
theorem InfO.c11 (h:InfO w D v):w.cell? ⟨D,11,none⟩=some (.pointer v.fl):=by rw [obj_cell h 11];rfl
theorem InfO.c12 (h:InfO w D v):w.cell? ⟨D,12,none⟩=some (.pointer v.fd):=by rw [obj_cell h 12];rfl
theorem InfO.c13 (h:InfO w D v):w.cell? ⟨D,13,none⟩=some (.int .i64 v.us):=by rw [obj_cell h 13];rfl
theorem InfO.c14 (h:InfO w D v):w.cell? ⟨D,14,none⟩=some (.int .i64 v.at_):=by rw [obj_cell h 14];rfl
theorem InfO.c15 (h:InfO w D v):w.cell? ⟨D,15,none⟩=some (.int .i64 v.er):=by rw [obj_cell h 15];rfl
theorem InfO.free (h:InfO w D v)(i:Nat):w.frozen? ⟨D,i,none⟩=false:=obj_free h i
theorem InfO.setWn (h:InfO w D v)(x:Value):InfO (w.setCell ⟨D,2,none⟩ x) D { v with wn:=x }:=by simpa [InfO,IV.cs] using obj_set h 2 x
theorem InfO.setRs (h:InfO w D v)(x:Value):InfO (w.setCell ⟨D,3,none⟩ x) D { v with rs:=x }:=by simpa [InfO,IV.cs] using obj_set h 3 x
theorem InfO.setFr (h:InfO w D v)(x:Int):InfO (w.setCell ⟨D,4,none⟩ (.int .i64 x)) D { v with fr:=x }:=by simpa [InfO,IV.cs] using obj_set h 4 (.int .i64 x)
theorem InfO.setSp (h:InfO w D v)(x:Int):InfO (w.setCell ⟨D,5,none⟩ (.int .i64 x)) D { v with sp:=x }:=by simpa [InfO,IV.cs] using obj_set h 5 (.int .i64 x)
theorem InfO.setNx (h:InfO w D v)(x:Int):InfO (w.setCell ⟨D,6,none⟩ (.int .i64 x)) D { v with nx:=x }:=by simpa [InfO,IV.cs] using obj_set h 6 (.int .i64 x)
theorem InfO.setLa (h:InfO w D v)(x:Bool):InfO (w.setCell ⟨D,7,none⟩ (.bool x)) D { v with la:=x }:=by simpa [InfO,IV.cs] using obj_set h 7 (.bool x)
theorem InfO.setLf (h:InfO w D v)(x:Int):InfO (w.setCell ⟨D,8,none⟩ (.int .i64 x)) D { v with lf:=x }:=by simpa [InfO,IV.cs] using obj_set h 8 (.int .i64 x)
theorem InfO.setLi (h:InfO w D v)(x:Option Addr):InfO (w.setCell ⟨D,9,none⟩ (.pointer x)) D { v with li:=x }:=by simpa [InfO,IV.cs] using obj_set h 9 (.pointer x)
theorem InfO.setDi (h:InfO w D v)(x:Option Addr):InfO (w.setCell ⟨D,10,none⟩ (.pointer x)) D { v with di:=x }:=by simpa [InfO,IV.cs] using obj_set h 10 (.pointer x)
theorem InfO.setFl (h:InfO w D v)(x:Option Addr):InfO (w.setCell ⟨D,11,none⟩ (.pointer x)) D { v with fl:=x }:=by simpa [InfO,IV.cs] using obj_set h 11 (.pointer x)
theorem InfO.setFd (h:InfO w D v)(x:Option Addr):InfO (w.setCell ⟨D,12,none⟩ (.pointer x)) D { v with fd:=x }:=by simpa [InfO,IV.cs] using obj_set h 12 (.pointer x)
theorem InfO.setUs (h:InfO w D v)(x:Int):InfO (w.setCell ⟨D,13,none⟩ (.int .i64 x)) D { v with us:=x }:=by simpa [InfO,IV.cs] using obj_set h 13 (.int .i64 x)
theorem InfO.setAt (h:InfO w D v)(x:Int):InfO (w.setCell ⟨D,14,none⟩ (.int .i64 x)) D { v with at_:=x }:=by simpa [InfO,IV.cs] using obj_set h 14 (.int .i64 x)
theorem InfO.setEr (h:InfO w D v)(x:Int):InfO (w.setCell ⟨D,15,none⟩ (.int .i64 x)) D { v with er:=x }:=by simpa [InfO,IV.cs] using obj_set h 15 (.int .i64 x)
end
def Sfx (wnd out:List Int):Prop:=(∃ pre,out=pre++wnd)∧(wnd=out∨32768≤wnd.length)
structure RowU (w:World)(lo:Nat)(v:Value)(xs:List Int):Prop where
 own:w.ownsRow 0 5 1 v xs.length (xs.map (.int .u8))
 fresh:∀ k,v.ownBlock=some k→lo≤k
theorem RowU.kept {S:Nat→Prop}{w w':World}{lo:Nat}{v:Value}{xs:List Int}(h:RowU w lo v xs)(hk:Kept S w w')(hs:∀ k,v.ownBlock=some k→¬ S k):RowU w' lo v xs:=⟨hk.row h.own hs,h.fresh⟩
def nxOf:Md→Int
 | .block=>0 | .stored=>1 | .bytes _=>2 | .head=>3 | .sym _ _=>4 | .fin=>5
def ModeOk (w:World)(S:Nat→Prop)(v:IV):Md→Prop
 | .bytes n=>v.lf=(n:Int)∧1≤n∧n≤65535
 | .sym lit dist=>CodeOk lit∧CodeOk dist∧∃ Dl Dd,v.li=some ⟨Dl,0,none⟩∧v.di=some ⟨Dd,0,none⟩∧DecG lit Dl S w∧DecG dist Dd S w
 | _=>True
def FixOk (w:World)(S:Nat→Prop)(v:IV):Prop:=v.fl=none∨∃ Fl Fd,v.fl=some ⟨Fl,0,none⟩∧v.fd=some ⟨Fd,0,none⟩∧DecG fixL Fl S w∧DecG fixD Fd S w
theorem over_any (w:World)(D:Nat)(v:IV)(h:InfO w D v):
  Calls Tryz.prog 56 #[.pointer (some ⟨D,0,none⟩)] w fun e w'=>e = .returned (.bool (decide (v.nx=5∨v.er≠0)))∧Kept NoB w w':=by
 have c6:=h.c6
 have c15:=h.c15
 obtain ⟨x,hx⟩:∃ x,x=v.nx:=⟨_,rfl⟩
 obtain ⟨y,hy⟩:∃ y,y=v.er:=⟨_,rfl⟩
 rw [← hx] at c6 ⊢
 rw [← hy] at c15 ⊢
 clear h hx hy
 by_cases h5:x=5
 ·subst h5
  go_enter Tryz.func56,Tryz.ntmps56
  go_wp2
  try (go_quiet (fail);go_wp2)
  go_ret
  exact ⟨by simp,by first | exact Kept.refl _ _ | exact (Kept.refl _ _).drewN _⟩
 ·have g5:(x == 5)=false:=by simp [h5]
  by_cases h0:y=0
  ·subst h0
   go_enter Tryz.func56,Tryz.ntmps56
   go_wp2
   try (go_quiet (fail);go_wp2)
   go_ret
   exact ⟨by simp [h5],by first | exact Kept.refl _ _ | exact (Kept.refl _ _).drewN _⟩
  ·have g0:(y != 0)=true:=by simp [h0]
   go_enter Tryz.func56,Tryz.ntmps56
   go_wp2
   try (go_quiet (fail);go_wp2)
   go_ret
   exact ⟨by simp [h0],by first | exact Kept.refl _ _ | exact (Kept.refl _ _).drewN _⟩
theorem endM_nx (last:Bool):nxOf (endM last)=if last then 5 else 0:=by cases last <;> rfl
theorem endBlock_any (w:World)(D:Nat)(v:IV)(h:InfO w D v):
  Calls Tryz.prog 153 #[.pointer (some ⟨D,0,none⟩)] w fun e w'=>e = .returned (.tuple #[])∧InfO w' D { v with nx:=if v.la then 5 else 0 }∧Kept (OneB D) w w':=by
 have c6:=h.c6
 have c7:=h.c7
 have f6:=h.free 6
 have h1:=h.setNx 0
 have f6b:=h1.free 6
 have c7b:=h1.c7
 have h2:=h1.setNx 5
 have k1:Kept (OneB D) w (w.setCell ⟨D,6,none⟩ (.int .i64 0)):=Kept.setCell (S:=OneB D) (p:=⟨D,6,none⟩) (Kept.refl _ w) (.inl rfl) _
 have k2:Kept (OneB D) w ((w.setCell ⟨D,6,none⟩ (.int .i64 0)).setCell ⟨D,6,none⟩ (.int .i64 5)):=Kept.setCell (S:=OneB D) (p:=⟨D,6,none⟩) k1 (.inl rfl) _
 have H1:=Hd h1;have H2:=Hd h2;have K1:=Hd k1;have K2:=Hd k2
 obtain ⟨x,hx⟩:∃ x,x=v.nx:=⟨_,rfl⟩
 rw [← hx] at c6
 obtain ⟨y,hy⟩:∃ y,y=v.la:=⟨_,rfl⟩
 simp only at c7b
 rw [← hy] at c7 c7b
 have HY:=Hd hy
 clear h h1 h2 k1 k2 hx hy
 cases y with
 | false=>
  have hz:(if v.la then (5:Int) else 0)=0:=by rw [← HY.out];rfl
  rw [hz]
  clear hz
  go_enter Tryz.func153,Tryz.ntmps153
  go_wp2
  refine bodyPost_end (results_none rfl _ _ _) rfl ?_
  exact ⟨rfl,H1.out,K1.out⟩
 | true=>
  have hz:(if v.la then (5:Int) else 0)=5:=by rw [← HY.out];rfl
  rw [hz]
  clear hz
  go_enter Tryz.func153,Tryz.ntmps153
  go_wp2
  refine bodyPost_end (results_none rfl _ _ _) rfl ?_
  exact ⟨rfl,H2.out,K2.out⟩
theorem iv_cs {v:IV}{cs1:Array Value}{x:Value}(h0:cs1[0]?=some x)(hs:cs1.size=v.cs.size)(h:∀ i,i≠0→cs1[i]?=v.cs[i]?):cs1=({ v with sk:=x }:IV).cs:=by
 apply Array.ext_getElem?
 intro i
 by_cases e:i=0
 ·subst e;rw [h0];rfl
 ·rw [h i e]
  match i,e with
  | j+1,_=>rfl
theorem wpList_copy_kept {P:Program}{w:World}{ops:Array Oper}{rest:List Oper}{o:Oper}{a:Act}{Q:Exit→Act→World→Prop}(hgd:o.guard=none)(d s:Operand)(dT sT:TypeId)
  (ho:o.op = .call { callee := .builtin .copy,args:=#[d,s],argTypes:=#[dT,sT] }) (elem:TypeId) (hu:P.underlying dT=some (.slice elem)) (hsz:(P.info? elem).map (·.size)=some 1)
  (g off dLen dCap:Nat) (ad:Addr) (sLen sCap:Nat) (hd:a.eval d = .slice (some ⟨g,off,none⟩) dLen dCap) (hs:a.eval s = .slice (some ad) sLen sCap)
  (cur:Array Value) (t:TypeId) (hg:w.heap[g]?=some (.cells cur t (0,0))) (cs:List Value) (hn:cs.length=Nat.min sLen dLen)
  (hsrc:∀ j v,cs[j]?=some v→w.cell? (ad.add j)=some v) (hfit:off+cs.length≤cur.size) (h1:∀ v∈cs,v.oneCell'=true) (x:Value) (hx:goInt cs.length=x)
  (h:∀ w',Hid (w'.heap[g]?=some (.cells (splice cur.toList off cs).toArray t (0,0)))→Hid (Kept (OneB g) w w')→wpList P ops Q rest (a.put o.dst x) w'):wpList P ops Q (o :: rest) a w:=by
 subst hx
 refine wpList_copy_own hgd d s dT sT ho elem hu hsz g off dLen dCap ad sLen sCap hd hs cur t hg cs hn hsrc hfit h1 ?_
 exact h _ (show _=_ by simpa [splice] using setRow_heap w g _ _ t _ hg) (Hd (Kept.setRow (S:=OneB g) (Kept.refl _ w) (.inl rfl) _))
theorem putOut_any (lo:Nat)(w:World)(D:Nat)(v:IV)(out:List Int)(a0:Option Addr)(c0 g n c k:Nat)(wnd:List Int)(h:InfO w D v)(hlo:lo≤D)(hsk:v.sk = .slice a0 out.length c0)(hs:RowU w lo v.sk out)
  (hw:w.ownsRow 0 5 1 (.slice (some ⟨g,0,none⟩) n c) n (wnd.map (.int .u8))) (hg:lo≤g) (hn:n=wnd.length) (hk:k≤n) (hk1:1≤k) (hall:AllB out) (hwa:AllB wnd) (hsep:v.sk.ownBlock≠some g) (hfit:out.length+k≤v.most) (hbig:v.most≤9223372036854775807) (hm:out.length+k≤1000000) (hn2:n≤1000000):
  Calls Tryz.prog 156 #[.pointer (some ⟨D,0,none⟩),.slice (some ⟨g,0,none⟩) n c,.int .i64 (k:Int)] w fun e w'=>e = .returned (.tuple #[])∧∃ (a1:Option Addr) (c1:Nat) (wnd':List Int),
   InfO w' D { v with sk := .slice a1 (out.length+k) c1,wn := .slice (some ⟨g,0,none⟩) wnd'.length c }∧RowU w' lo (.slice a1 (out.length+k) c1) (out++wnd.drop (n - k))∧RowU w' lo (.slice (some ⟨g,0,none⟩) wnd'.length c) wnd'∧
   wnd'=(if n < 98304 then wnd else wnd.drop (n - 32768))∧(Value.slice a1 (out.length+k) c1).ownBlock≠some g∧Kept (fun j=>j=D∨j=g∨v.sk.ownBlock=some j) w w'∧(∀ j,(Value.slice a1 (out.length+k) c1).ownBlock=some j→v.sk.ownBlock=some j∨w.heap.size≤j):=by
 have hcap:=own_cap hw
 have hgl:=(hw.lt g rfl).2
 have hn0:(0:Int)≤(n:Int) - k:=by omega
 obtain ⟨q,hq⟩:∃ q,q=n - k:=⟨_,rfl⟩
 have hq1:IntKind.i64.wrap ((n:Int) - k)=(q:Int):=by rw [IntWalk.i64_in _ (by omega)];omega
 have hq2:(q:Int)≤n:=by omega
 have hSnk:Snk w 111 v.cs D lo a0 c0 out v.most:=⟨h,by rw [← hsk];rfl,rfl,by rw [← hsk];exact hs.own,fun k hk=>hs.fresh k (by rw [hsk];exact hk),hlo,by omega,hbig,by omega,by decide,hall⟩
 have hgD:g≠D:=row_ne hw h (by decide) g rfl
 have hrd:Reads w (some ⟨g,0,none⟩) wnd:=own_reads (by rw [← hn];exact hw) hn
 have hdl:(wnd.drop q).length=k:=by rw [List.length_drop];omega
 have HWr:Hid (∀ W H,Kept NoB w W→w.heap.size≤H→W.cell? ⟨H,0,none⟩=some (.slice (some ⟨g,q,none⟩) k (c - q))→Calls Tryz.prog 174 #[.pointer (some ⟨D,0,none⟩),.slice (some ⟨H,0,none⟩) 1 1] W fun e w'=>∃ z,e = .returned (.int .i64 z)∧WrR W 111 v.cs D lo (.slice a0 out.length c0) (out++wnd.drop q) v.most w'∧Kept NoB w W):=Hd (fun W H hW hH hc=>by
  have hDl:=obj_lt h
  have hrW:Reads W (some ⟨g,0,none⟩) wnd:=hrd.kept hW (fun _ _ h=>h)
  have hrT:∀ W',Kept (OrB (OneB D) (OwnB (.slice a0 out.length c0))) W W'→Parts W' (some ⟨H,0,none⟩) [wnd.drop q]:=fun W' hk=>by
   have hHn:∀ j,j < w.heap.size→H≠j:=fun j hj e=>by omega
   have hSk:∀ j,(Value.slice a0 out.length c0).ownBlock=some j→j < w.heap.size:=fun j hj=>(hs.own.lt j (by rw [hsk];exact hj)).2
   have hb2:∀ W1:World,Kept (OrB (OneB D) (OwnB (.slice a0 out.length c0))) W W1→Reads W1 (some ⟨g,0,none⟩) wnd:=fun W1 hk1=>hrW.kept hk1 (fun a ha hS=>by
    obtain rfl:=Option.some.inj ha
    rcases hS with e | e
    ·exact hgD e
    ·exact hsep (by rw [hsk];exact e))
   have hHc:W'.cell? ⟨H,0,none⟩=some (.slice (some ⟨g,q,none⟩) k (c - q)):=(World.cell?_of_block (hk.block _ (World.block_lt_of_cell? _ _ hc) (fun hS=>by
    rcases hS with e | e
    ·exact hHn D hDl e
    ·exact hHn H (hSk H e) rfl))).trans hc
   refine .inr ⟨H,0,rfl,World.block_lt_of_cell? _ _ hHc,fun i hi=>?_⟩
   obtain rfl:i=0:=by simpa using hi
   refine ⟨some ⟨g,q,none⟩,c - q,?_,?_,?_,?_,fun h=>by cases h⟩
   ·show W'.cell? ⟨H,0,none⟩=some (.slice _ (wnd.drop q).length _)
    rw [hdl];exact hHc
   ·have:=reads_drop q (hb2 W' hk)
    have e:(⟨g,0,none⟩:Addr).add q=⟨g,q,none⟩:=by simp [Addr.add];omega
    rwa [e] at this
   ·show (wnd.drop q).length≤_
    rw [hdl];omega
   ·omega
  have hf:fill out v.most [wnd.drop q]=out++wnd.drop q:=by
   unfold fill
   simp only [List.flatten_cons,List.flatten_nil,List.append_nil]
   rw [List.take_of_length_le (by rw [List.length_append];omega)]
  have:=swrite_any W (hSnk.keptNo hW) (some ⟨H,0,none⟩) 1 1 [wnd.drop q] rfl (fun p hp=>by simp at hp;subst hp;exact fun b hb=>hwa b (List.mem_of_mem_drop hb)) hrT (by simp;omega) (by decide)
  rw [hf] at this
  refine this.mono ?_
  rintro e w' ⟨h1,h2⟩
  exact ⟨_,h1,h2,hW⟩)
 have hkd:Kept NoB w (w.alloc (.cells #[.slice (some ⟨g,q,none⟩) k (c - q)] 22)):=(Kept.refl _ _).alloc _
 have hcell:((w.alloc (.cells #[.slice (some ⟨g,q,none⟩) k (c - q)] 22)).drew).cell? ⟨w.heap.size,0,none⟩=some (.slice (some ⟨g,q,none⟩) k (c - q)):=by
  show (w.alloc _).cell? _=_
  exact cell_new 0 rfl
 have hnq:n - q=k:=by omega
 have hcq:¬ c=q:=by omega
 have hq0:(0:Int)≤(q:Int):=by omega
 have hnc:(n:Int)≤(c:Int):=by omega
 have H:=Hd h;have HS:=Hd hs;have HQ:=Hd hq;have HN:=Hd hn;have HDl:=Hd hdl
 clear hSnk hrd hq hn hdl h hs
 go_enter Tryz.func156,Tryz.ntmps156
 go_upto_region 0 with fail
 have hk0:=Kept.refl NoB w
 go_region_held3 (fun _=>True) (trivial)
  (first
   | (go_at_call 174;(with_reducible refine (HWr.out _ w.heap.size (Kept.drew hkd) (Nat.le_refl _) hcell).mono ?_);rintro e wn ⟨z,rfl,hwr,hkn0⟩))
 obtain ⟨cs1,a1,c1,hsn,hcs1,hcsi,hkw,hfr⟩:=hwr
 clear hkn0 HWr hcell
 have hL:(out++wnd.drop q).length=out.length+k:=by rw [List.length_append,HDl.out]
 have hkW:Kept (OrB (OneB D) (OwnB (.slice a0 out.length c0))) w wn:=((Kept.drew hkd).mono (fun _ _ h=>h.elim)).trans hkw
 have hIn:InfO wn D { v with sk := .slice a1 (out.length+k) c1 }:=by
  have e:=hsn.obj
  rw [iv_cs hsn.c0 hcs1 hcsi,hL] at e
  exact e
 have hSn:RowU wn lo (.slice a1 (out.length+k) c1) (out++wnd.drop q):=⟨by have e:=hsn.own;rw [hL] at e;rw [hL];exact e,fun j hj=>hsn.fr j (by rw [hL];exact hj)⟩
 have hgS:¬ OrB (OneB D) (OwnB (.slice a0 out.length c0)) g:=fun e=>by
  rcases e with e | e
  ·exact hgD e
  ·exact hsep (by rw [hsk];exact e)
 have hWn:wn.ownsRow 0 5 1 (.slice (some ⟨g,0,none⟩) n c) n (wnd.map (.int .u8)):=hkW.row hw (fun j hj=>by
  obtain rfl:g=j:=by simpa [Value.ownBlock] using hj
  exact hgS)
 have hS1:(Value.slice a1 (out.length+k) c1).ownBlock≠some g:=fun e=>by
  rcases hfr g (by rw [hL];exact e) with e1 | e1
  ·exact hgS (.inr e1)
  ·have:w.heap.size≤(w.alloc (.cells #[.slice (some ⟨g,q,none⟩) k (c - q)] 22)).drew.heap.size:=(Kept.drew hkd).size
   omega
 have hF1:∀ j,(Value.slice a1 (out.length+k) c1).ownBlock=some j→v.sk.ownBlock=some j∨w.heap.size≤j:=fun j e=>by
  rcases hfr j (by rw [hL];exact e) with e1 | e1
  ·left;rw [hsk];exact e1
  ·right
   have:w.heap.size≤(w.alloc (.cells #[.slice (some ⟨g,q,none⟩) k (c - q)] 22)).drew.heap.size:=(Kept.drew hkd).size
   omega
 have hkS:Kept (fun j=>j=D∨j=g∨v.sk.ownBlock=some j) w wn:=hkW.mono (fun j _ e=>by
  rcases e with e | e
  ·exact .inl e
  ·exact .inr (.inr (by rw [hsk];exact e)))
 clear hcs1 hcsi hkw hfr hsn hkd hkW
 simp only [hsk] at hF1 hkS
 by_cases hbg:n < 98304
 ·have hge:decide ((98304:Int)≤(n:Int))=false:=by simp;omega
  have h2:=hIn.setWn (.slice (some ⟨g,0,none⟩) n c)
  have f2:=hIn.free 2
  have c2:=hIn.c2
  have hk2:Kept (OneB D) wn (wn.setCell ⟨D,2,none⟩ (.slice (some ⟨g,0,none⟩) n c)):=Kept.setCell (S:=OneB D) (p:=⟨D,2,none⟩) (Kept.refl _ wn) (.inl rfl) _
  have H2:=Hd h2;have K2:=Hd hk2;have HI:=Hd hIn;have HSn:=Hd hSn;have HWn:=Hd hWn
  clear h2 hk2 hIn hSn hWn
  go_wp2
  refine bodyPost_end (results_none rfl _ _ _) rfl ?_
  have hw2:wnd.length=n:=HN.out.symm
  refine ⟨rfl,a1,c1,wnd,?_,?_,?_,rfl,hS1,?_,hF1⟩
  ·rw [hw2];exact H2.out
  ·have e:=HSn.out.kept K2.out (fun j e1 e2=>?_)
   ·rw [HQ.out] at e;exact e
   ·exact row_ne HSn.out.own HI.out (by decide) j e1 e2
  ·rw [hw2];refine ⟨?_,fun j hj=>?_⟩
   ·rw [hw2];exact K2.out.row HWn.out (fun j hj e=>by
     obtain rfl:g=j:=by simpa [Value.ownBlock] using hj
     exact hgD e)
   ·obtain rfl:g=j:=by simpa [Value.ownBlock] using hj
    exact hg
  ·exact hkS.trans (K2.out.mono (fun j _ e => .inl e))
 ·have hge:decide ((98304:Int)≤(n:Int))=true:=by simp;omega
  obtain ⟨p,hp⟩:∃ p,p=n - 32768:=⟨_,rfl⟩
  have hp1:IntKind.i64.wrap ((n:Int) - 32768)=(p:Int):=by rw [IntWalk.i64_in _ (by omega)];omega
  have hp2:(p:Int)≤n:=by omega
  have hp0:(0:Int)≤(p:Int):=by omega
  have hnp:n - p=32768:=by omega
  have hcp:¬ c=p:=by omega
  have h3c:(32768:Int)≤(c:Int):=by omega
  have h3n:32768≤c:=by omega
  have hwl:wnd.length=n:=HN.out.symm
  obtain ⟨cs,hcs⟩:∃ cs,cs=(wnd.drop p).map (Value.int .u8):=⟨_,rfl⟩
  have hdl:(wnd.drop p).length=32768:=by rw [List.length_drop];omega
  have hcl:cs.length=32768:=by rw [hcs,List.length_map,hdl]
  have hrd2:Reads wn (some ⟨g,p,none⟩) (wnd.drop p):=by
   have:=reads_drop p (own_reads (by rw [hwl];exact hWn) hwl.symm)
   have e:(⟨g,0,none⟩:Addr).add p=⟨g,p,none⟩:=by simp [Addr.add];omega
   rwa [e] at this
  have hsrc:∀ j v,cs[j]?=some v→wn.cell? ((⟨g,p,none⟩:Addr).add j)=some v:=by rw [hcs];exact reads_news hrd2
  have h1:∀ v∈cs,v.oneCell'=true:=by rw [hcs];intro v hv;obtain ⟨b,_,rfl⟩:=List.mem_map.mp hv;rfl
  obtain ⟨cur,hcur,hcsz⟩:∃ cur,wn.heap[g]?=some (.cells cur 5 (0,0))∧cur.size=c:=by
   rcases hWn.2 with ⟨hv,_⟩ | ⟨g',c',cur,hv,_,e1,_,_,e2,_⟩
   ·simp at hv
   ·simp at hv
    obtain ⟨rfl,rfl⟩:=hv
    exact ⟨cur,e1,by omega⟩
  have hmin:cs.length=Nat.min 32768 n:=by rw [hcl];show 32768=min 32768 n;omega
  have hfit:0+cs.length≤cur.size:=by omega
  have hgo:goInt cs.length = .int .i64 32768:=by rw [hcl];rfl
  have hsz:(Tryz.prog.info? 5).map (·.size)=some 1:=by rfl
  have HI:=Hd hIn;have HSn:=Hd hSn;have HWn:=Hd hWn;have HCL:=Hd hcl;have HCS:=Hd hcs;have HP:=Hd hp;have HDL:=Hd hdl;have HCZ:=Hd hcsz;have HWL:=Hd hwl
  clear hIn hSn hWn hrd2 hcs hp hdl hwl
  go_wp2_with (with_reducible refine wpList_copy_kept rfl (.tmp 21) (.tmp 26) 22 22 rfl 5 Tryz.underlying22 hsz g 0 n c ⟨g,p,none⟩ 32768 (c - p) rfl rfl cur 5 hcur cs hmin hsrc hfit h1 _ hgo ?_)
  intro w2 hg2 hk2
  have hI2:InfO w2 D { v with sk := .slice a1 (out.length+k) c1 }:=HI.out.kept hk2.out (fun e=>hgD e.symm)
  have h2:=hI2.setWn (.slice (some ⟨g,0,none⟩) 32768 c)
  have f2:=hI2.free 2
  have c2:=hI2.c2
  have hks2:Kept (OneB D) w2 (w2.setCell ⟨D,2,none⟩ (.slice (some ⟨g,0,none⟩) 32768 c)):=Kept.setCell (S:=OneB D) (p:=⟨D,2,none⟩) (Kept.refl _ w2) (.inl rfl) _
  have H2:=Hd h2;have K2:=Hd hks2;have HI2:=Hd hI2
  clear h2 hks2 hI2 hcur hsrc hmin hfit hgo
  go_wp2
  refine bodyPost_end (results_none rfl _ _ _) rfl ?_
  have hw2:(wnd.drop p).length=32768:=HDL.out
  refine ⟨rfl,a1,c1,wnd.drop p,?_,?_,?_,?_,hS1,?_,hF1⟩
  ·rw [hw2];exact H2.out
  ·have hS2:RowU w2 lo (.slice a1 (out.length+k) c1) (out++wnd.drop q):=HSn.out.kept hk2.out (fun j e1 e2=>hS1 (by rw [e1];exact congrArg some e2))
   have e:=hS2.kept K2.out (fun j e1 e2=>row_ne hS2.own HI2.out (by decide) j e1 e2)
   rw [HQ.out] at e;exact e
  ·have hcm:=own_cap HWn.out
   have hl:(splice cur.toList 0 cs).length=cur.size:=by rw [length_splice _ _ _ (by rw [HCL.out];simp;have:=HCZ.out;omega)];simp
   have ho:w2.ownsRow 0 5 1 (.slice (some ⟨g,0,none⟩) 32768 c) 32768 ((wnd.drop p).map (.int .u8)):=by
    refine ⟨by rw [List.length_map,hw2],.inr ⟨g,c,_,rfl,Nat.zero_le _,hg2.out,h3n,hcm.2,?_,?_⟩⟩
    ·have:=HCZ.out
     simp [hl];omega
    ·rw [← HCS.out]
     have:=HCL.out
     simp [splice,List.take_append,this]
   rw [hw2];refine ⟨?_,fun j hj=>?_⟩
   ·rw [hw2];exact K2.out.row ho (fun j hj e=>by
     obtain rfl:g=j:=by simpa [Value.ownBlock] using hj
     exact hgD e)
   ·obtain rfl:g=j:=by simpa [Value.ownBlock] using hj
    exact hg
  ·rw [HP.out]
  ·exact (hkS.trans (hk2.out.mono (fun j _ e => .inr (.inl e)))).trans (K2.out.mono (fun j _ e => .inl e))
theorem readNumber_bad (w:World)(R:Nat)(b n:Int):
  Calls Tryz.prog 161 #[.pointer (some ⟨R,0,none⟩),.int .i64 b,.int .i64 n,.bool false] w fun e w'=>e = .returned (.tuple #[.int .i64 0,.int .i64 3])∧w'=w:=by
 go_enter Tryz.func161,Tryz.ntmps161
 go_wp2
 go_ret2
 exact ⟨rfl,rfl⟩
theorem readNumber_yes (w:World)(R:Nat)(ao:Option Addr)(cap:Nat)(bs:List Int)(p n b:Nat)(h:Rdr w R ao cap bs p)(hn:n≤13)(hp:p+n≤8*bs.length)(hb:b≤100000):
  Calls Tryz.prog 161 #[.pointer (some ⟨R,0,none⟩),.int .i64 (b:Int),.int .i64 (n:Int),.bool true] w fun e w'=>e = .returned (.tuple #[.int .i64 ((b+bitsAt bs p n:Nat):Int),.int .i64 0])∧Rdr w' R ao cap bs (p+n)∧Kept (OneB R) w w':=by
 have hlt:bitsAt bs p n < 2 ^ 13:=Nat.lt_of_lt_of_le (bitsAt_lt bs p n) (Nat.pow_le_pow_right (by decide) hn)
 have HT:=Hd (take_yes w R ao cap bs p n h (by omega) hp)
 obtain ⟨x,hx⟩:∃ x,x=bitsAt bs p n:=⟨_,rfl⟩
 rw [← hx] at HT hlt ⊢
 clear h hx
 have e1:IntKind.i64.wrap (x:Int)=x:=IntWalk.i64_in _ (by omega)
 have e2:IntKind.i64.wrap ((b:Int)+x)=((b+x:Nat):Int):=by rw [IntWalk.i64_in _ (by omega)];omega
 go_enter Tryz.func161,Tryz.ntmps161
 go_wp2_with fail
 refine HT.out.mono ?_
 rintro e wn ⟨rfl,hr,hk⟩
 have HR:=Hd hr;have HK:=Hd hk
 clear hr hk
 go_wp2
 go_ret2
 exact ⟨rfl,HR.out,HK.out⟩
theorem readNumber_no (w:World)(R:Nat)(ao:Option Addr)(cap:Nat)(bs:List Int)(p n:Nat)(b:Int)(h:Rdr w R ao cap bs p)(hp:8*bs.length < p+n):
  Calls Tryz.prog 161 #[.pointer (some ⟨R,0,none⟩),.int .i64 b,.int .i64 (n:Int),.bool true] w fun e w'=>e = .returned (.tuple #[.int .i64 0,.int .i64 2])∧Kept NoB w w':=by
 have HT:=Hd (take_no w R ao cap bs p n h (by right;right;omega))
 clear h hp
 go_enter Tryz.func161,Tryz.ntmps161
 go_wp2_with fail
 refine HT.out.mono ?_
 rintro e wn ⟨rfl,hk⟩
 have HK:=Hd hk
 clear hk
 go_wp2
 go_ret2
 exact ⟨rfl,HK.out⟩
theorem readStored_short2 (w:World)(D:Nat)(v:IV)(R:Nat)(ao:Option Addr)(cap:Nat)(bs:List Int)(p:Nat)(h:InfO w D v)(hr:Rdr w R ao cap bs p)(hp:8*bs.length < up8 p+32):
  Calls Tryz.prog 128 #[.pointer (some ⟨D,0,none⟩),.pointer (some ⟨R,0,none⟩)] w fun e w'=>e = .returned (.int .i64 2)∧Rdr w' R ao cap bs (up8 p)∧Kept (OneB R) w w':=by
 have HA:=Hd (ralign_any w R ao cap bs p hr)
 have HT:Hid (∀ w,Rdr w R ao cap bs (up8 p)→Calls Tryz.prog 96 #[.pointer (some ⟨R,0,none⟩),.int .i64 32] w fun e w'=>e = .returned (.tuple #[.int .u32 0,.bool false])∧Kept NoB w w'):=Hd fun w hw=>take_no w R ao cap bs (up8 p) 32 hw (by right;right;omega)
 clear h hr hp
 go_enter Tryz.func128,Tryz.ntmps128
 go_wp2_with fail
 refine HA.out.mono ?_
 rintro e w1 ⟨rfl,hr1,hk1⟩
 have HT1:=Hd (HT.out w1 hr1);have HK1:=Hd hk1;have HR1:=Hd hr1
 clear hr1 hk1 HA HT
 go_wp2_with fail
 refine HT1.out.mono ?_
 rintro e w2 ⟨rfl,hk2⟩
 have HK:=Hd (HK1.out.trans (hk2.mono (fun _ _ h=>h.elim)));have HR:=Hd (HR1.out.keptNo hk2)
 clear hk2 HK1 HT1
 go_wp2
 go_ret
 exact ⟨rfl,HR.out,HK.out⟩
theorem and16 (x:Nat)(h:x < 4294967296):bits .and .u32 (x:Int) 65535=((x % 65536:Nat):Int):=by
 show IntKind.u32.wrap ((BitVec.ofInt 32 (x:Int) &&& BitVec.ofInt 32 65535).toNat:Int)=_
 have h1:(BitVec.ofInt 32 (x:Int)).toNat=x:=by rw [BitVec.ofInt_natCast,BitVec.toNat_ofNat];exact Nat.mod_eq_of_lt (by omega)
 have h2:(BitVec.ofInt 32 (65535:Int)).toNat=2 ^ 16 - 1:=by decide
 rw [BitVec.toNat_and,h1,h2,Nat.and_two_pow_sub_one_eq_mod,IntKind.wrap_u32']
 omega
theorem bits_low (bs:List Int)(P:Nat):bitsAt bs P 32 % 65536=bitsAt bs P 16:=by
 unfold bitsAt
 exact Nat.mod_mod_of_dvd _ (show 2 ^ 16 ∣ 2 ^ 32 from Nat.pow_dvd_pow 2 (by omega))
theorem bits_high (bs:List Int)(P:Nat):bitsAt bs P 32 / 65536=bitsAt bs (P+16) 16:=by
 unfold bitsAt
 rw [Nat.pow_add,← Nat.div_div_eq_div_mul]
 exact Nat.mod_mul_right_div_self _ (2 ^ 16) (2 ^ 16)
theorem readStored_bad2 (w:World)(D:Nat)(v:IV)(R:Nat)(ao:Option Addr)(cap:Nat)(bs:List Int)(p:Nat)(h:InfO w D v)(hr:Rdr w R ao cap bs p)(hp:up8 p+32≤8*bs.length)(hne:bitsAt bs (up8 p) 16+bitsAt bs (up8 p+16) 16≠65535):
  Calls Tryz.prog 128 #[.pointer (some ⟨D,0,none⟩),.pointer (some ⟨R,0,none⟩)] w fun e w'=>e = .returned (.int .i64 6)∧Rdr w' R ao cap bs (up8 p+32)∧Kept (OneB R) w w':=by
 have HA:=Hd (ralign_any w R ao cap bs p hr)
 have hlt:=bitsAt_lt bs (up8 p) 32
 rw [← bits_low,← bits_high] at hne
 obtain ⟨x,hx⟩:∃ x,x=bitsAt bs (up8 p) 32:=⟨_,rfl⟩
 have HT:Hid (∀ w,Rdr w R ao cap bs (up8 p)→Calls Tryz.prog 96 #[.pointer (some ⟨R,0,none⟩),.int .i64 32] w fun e w'=>e = .returned (.tuple #[.int .u32 (x:Nat),.bool true])∧Rdr w' R ao cap bs (up8 p+32)∧Kept (OneB R) w w'):=Hd fun w hw=>by rw [hx];exact take_yes w R ao cap bs (up8 p) 32 hw (by omega) hp
 rw [← hx] at hlt hne
 obtain ⟨a,ha⟩:∃ a,a=x % 65536:=⟨_,rfl⟩
 obtain ⟨y,hy⟩:∃ y,y=4294967295 - x:=⟨_,rfl⟩
 obtain ⟨z,hz⟩:∃ z,z=y / 65536:=⟨_,rfl⟩
 have e1:bits .and .u32 (x:Int) 65535=(a:Int):=by rw [and16 x (by omega),ha]
 have e2:bits .xor .u32 IntKind.u32.max (x:Int)=(y:Int):=by rw [not32 x (by omega),hy]
 have e3:(y:Int) / 65536=(z:Int):=by omega
 have e5:¬ (a:Int)=(z:Int):=by omega
 have e6:¬ a=z:=by omega
 have e4:((a:Int) != (z:Int))=true:=by simpa using e5
 have e7:((a:Int) == (z:Int))=false:=by simpa using e5
 clear h hr hp hx ha hy hz hne hlt
 go_enter Tryz.func128,Tryz.ntmps128
 go_wp2_with fail
 refine HA.out.mono ?_
 rintro e w1 ⟨rfl,hr1,hk1⟩
 have HT1:=Hd (HT.out w1 hr1);have HK1:=Hd hk1
 clear hr1 hk1 HA HT
 go_wp2_with fail
 refine HT1.out.mono ?_
 rintro e w2 ⟨rfl,hr2,hk2⟩
 have HK:=Hd (HK1.out.trans hk2);have HR:=Hd hr2
 clear hr2 hk2 HK1 HT1
 go_upto_region 6 with fail
 go_wp2_with fail
 all_goals first
  | (exfalso;simp_all;done)
  | (go_ret;exact ⟨rfl,HR.out,HK.out⟩)

theorem own_nil_cap {w:World}{ao:Option Addr}{n cap:Nat}{xs:List Value}(h:w.ownsRow 0 5 1 (.slice ao n cap) n xs):ao=none→cap=0:=by
 rintro rfl
 rcases h.2 with ⟨h1,_⟩ | ⟨g,c,cur,h1,_⟩
 ·simp at h1;exact h1.2
 ·simp at h1
def Gave (R:Nat)(ao:Option Addr)(cap:Nat)(bs xs:List Int)(q:Nat)(w:World)(e:Ending)(w':World):Prop:=
 ∃ ao' cap',e = .returned (.tuple #[.slice ao' xs.length cap',.bool true])∧Hid ((convert 22 9 (.slice ao' xs.length cap')).run Tryz.prog w' = .ok (.string (strOfNums xs)) w')∧Hid (Reads w' ao' xs)∧Hid (w'.ownsRow 0 5 1 (.slice ao' xs.length cap') xs.length (xs.map (.int .u8)))∧Rdr w' R ao cap bs q∧Kept (OneB R) w w'
theorem bytes_yes (w:World)(R:Nat)(ao:Option Addr)(cap:Nat)(bs:List Int)(p n:Nat)(h:Rdr w R ao cap bs p)(hb47:bs.length≤140737488355328)(hn:up8 p+8*n≤8*bs.length):
  Calls Tryz.prog 155 #[.pointer (some ⟨R,0,none⟩),.int .i64 n] w (Gave R ao cap bs ((bs.drop (up8 p / 8)).take n) (up8 p+8*n) w):=by
 have hlm:=h.2.2.1
 have h8:up8 p % 8=0:=by unfold up8;omega
 have hcap:bs.length≤cap∧cap≤maxLen:=by
  rcases h.2.1.2 with ⟨h1,_⟩ | ⟨g,c,cur,h1,_,_,h2,h3,_⟩
  ·simp at h1;unfold maxLen;omega
  ·simp at h1;omega
 have H:=Hd h;clear h
 generalize hP:up8 p=P at hn h8 ⊢
 have HP:=Hd hP;clear hP
 obtain ⟨f,hf⟩:∃ f,f=P / 8:=⟨_,rfl⟩
 have hdiv:(P:Int) / 8=f:=by omega
 have hnl:¬ (8*(bs.length:Int) - P) / 8 < n:=by omega
 have hfn:f+n≤bs.length:=by omega
 rw [← hf]
 have HF:=Hd hf;clear hf
 have hxl:((bs.drop f).take n).length=n:=by rw [List.length_take,List.length_drop];omega
 have HXl:=Hd hxl;clear hxl
 go_enter Tryz.func155,Tryz.ntmps155
 go_wp2_with fail
 refine (ralign_any _ _ _ _ _ _ H.out).mono ?_
 rintro e w1 ⟨rfl,hR,hk1⟩
 rw [HP.out] at hR
 have HR:=Hd hR;have HK:=Hd hk1;clear hR hk1
 go_wp2_with fail
 refine (left_any _ _ _ _ _ _ HR.out).mono ?_
 rintro e w2 ⟨rfl,hk2⟩
 have hR2:=HR.out.keptNo hk2
 have c0:w2.cell? ⟨R,0,none⟩=some (.slice ao bs.length cap):=by simpa using obj_cell hR2.1 0
 have c1:w2.cell? ⟨R,1,none⟩=some (.int .i64 P):=by simpa using obj_cell hR2.1 1
 have f1:w2.frozen? ⟨R,1,none⟩=false:=obj_free hR2.1 1
 have HR2:=Hd hR2;have HK2:=Hd (HK.out.trans (hk2.mono (fun _ _ h=>h.elim)));clear hR2 hk2
 have hfi:(f:Int)+n≤cap:=by omega
 have hf0:(0:Int)≤(f:Int)+n:=by omega
 go_upto_region 6 with fail
 have e:((P:Int)+8*n)=((P+8*n:Nat):Int):=by push_cast;rfl
 have hR3:Rdr (w2.setCell ⟨R,1,none⟩ (.int .i64 ((P:Int)+8*n))) R ao cap bs (P+8*n):=by
  rw [e];exact HR2.out.moved (Kept.refl _ _) hn
 have hK3:Kept (OneB R) w (w2.setCell ⟨R,1,none⟩ (.int .i64 ((P:Int)+8*n))):=Kept.setCell (S:=OneB R) (p:=⟨R,1,none⟩) HK2.out (.inl rfl) _
 have HR3:=Hd hR3;have HK3:=Hd hK3
 clear hR3 hK3 c0 c1 f1 HR2 HK2 e
 generalize w2.setCell ⟨R,1,none⟩ (.int .i64 ((P:Int)+8*n))=w3 at HR3 HK3 ⊢
 have c0:w3.cell? ⟨R,0,none⟩=some (.slice ao bs.length cap):=by simpa using obj_cell HR3.out.1 0
 have hrd:=own_reads HR3.out.2.1 rfl
 have HRd:=Hd hrd;clear hrd
 by_cases hfc:f=cap
 ·have hn0:n=0:=by omega
  subst hn0
  have hbc:bs.length=cap:=by omega
  go_wp2_with fail
  refine (clone_any ao 0 [] w3 ⟨(fun _=>rfl),(fun a _ i hi=>by simp at hi)⟩ (by simp)).mono ?_
  rintro e w4 ⟨ao',cap',rfl,ho,hf,hn',hk⟩
  have HO:=Hd ho;have HK4:=Hd hk;clear ho hf hn' hk
  go_wp2
  go_ret2
  rw [List.take_zero]
  exact ⟨ao',cap',rfl,conv_reads (own_reads HO.out rfl) rfl (own_nil_cap HO.out),own_reads HO.out rfl,HO.out,HR3.out.keptNo HK4.out,HK3.out.trans (HK4.out.mono (fun _ _ h=>h.elim))⟩
 ·have hfl:(f:Int) < cap:=by omega
  obtain ⟨x,rfl⟩:∃ x,ao=some x:=by
   cases ao with
   | none=>have:=own_nil_cap HR3.out.2.1 rfl;omega
   | some x=>exact ⟨x,rfl⟩
  have hcl:=clone_any (some (x.add f)) (cap - f) ((bs.drop f).take n) w3 (reads_take n (reads_drop f HRd.out)) (by rw [HXl.out];omega)
  rw [HXl.out] at hcl
  have HCl:=Hd hcl;clear hcl
  obtain ⟨xs,hxs⟩:∃ xs,xs=(bs.drop f).take n:=⟨_,rfl⟩
  rw [← hxs] at HCl HXl
  have HXs:=Hd hxs;clear hxs
  go_wp2_with fail
  refine HCl.out.mono ?_
  rintro e w4 ⟨ao',cap',rfl,ho,hf,hn',hk⟩
  have HO:=Hd ho;have HK4:=Hd hk;clear ho hf hn' hk
  go_wp2
  go_ret2
  rw [← HXs.out]
  exact ⟨ao',cap',by rw [HXl.out];rfl,conv_reads (own_reads HO.out rfl) rfl (own_nil_cap HO.out),own_reads HO.out rfl,HO.out,HR3.out.keptNo HK4.out,HK3.out.trans (HK4.out.mono (fun _ _ h=>h.elim))⟩
end Go.Proofs.YtfmjfgmbjdhogaaGreatDoor
