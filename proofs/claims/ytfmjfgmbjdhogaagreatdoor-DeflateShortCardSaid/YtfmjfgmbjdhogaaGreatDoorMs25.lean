/-
  lens.Runs once more: which runs it tells, as a function.
  lens.Write once more: which head it puts, as one alone.
  What layer 1's statements ask of themselves first: a few bits, put and taken.
-/
import Derived.Test.YtfmjfgmbjdhogaaGreatDoorMs24
import Derived.Deep.CutBlock
import Derived.Laws.BytesArg
namespace Go.Proofs.YtfmjfgmbjdhogaaGreatDoor
open Go.RowKit
set_option linter.unusedVariables false
set_option linter.unusedSimpArgs false

/-- Where the row of the same that begins at p ends. -/
def groupE (l : List Int) (p : Nat) : Nat := p + 1 + ((l.drop (p + 1)).takeWhile (fun x => x == l.getD p 0)).length
/-- The runs from p on. -/
def restR (l : List Int) (p : Nat) : List (Int × Int) :=
  if h : p < l.length then firstF (l.getD p 0) (groupE l p - p) ++ restR l (groupE l p) else []
termination_by l.length - p
decreasing_by unfold groupE; omega
theorem restR_end (l : List Int) : restR l l.length = [] := by rw [restR, dif_neg (by omega)]
theorem restR_step (l : List Int) {p : Nat} (h : p < l.length) : restR l p = firstF (l.getD p 0) (groupE l p - p) ++ restR l (groupE l p) := by
  conv => lhs; rw [restR, dif_pos h]
theorem group_eq {l : List Int} {p e : Nat} {z : Int} (hpe : p < e) (hel : e ≤ l.length) (hz : z = l.getD p 0) (ht : l.take e = l.take p ++ List.replicate (e - p) z) (hx : e = l.length ∨ l.getD e 0 ≠ z) : groupE l p = e := by
  have h1 : l.drop (p + 1) = List.replicate (e - p - 1) z ++ l.drop e := by
    conv => lhs; rw [← List.take_append_drop e l]
    rw [List.drop_append, List.length_take, show p + 1 - min e l.length = 0 by omega, List.drop_zero, ht, List.drop_append, List.length_take, show p + 1 - min p l.length = 1 by omega, List.drop_replicate, List.drop_of_length_le (by rw [List.length_take]; omega), List.nil_append]
  have h2 : (l.drop e).takeWhile (fun x => x == z) = [] := by
    rcases hx with h | h
    · rw [List.drop_of_length_le (by omega)]; rfl
    · by_cases hl : e < l.length
      · rw [List.drop_eq_getElem_cons hl, List.takeWhile_cons]
        have e2 : l.getD e 0 = l[e] := by simp [List.getD, hl]
        rw [e2] at h
        rw [if_neg (by simpa using h)]
      · rw [List.drop_of_length_le (by omega)]; rfl
  unfold groupE
  rw [← hz, h1, List.takeWhile_append_of_pos (by intro a ha; rw [(List.mem_replicate.1 ha).2]; simp), h2, List.append_nil, List.length_replicate]
  omega
structure TellF (l : List Int) (p : Nat) (rs : List (Int × Int)) : Prop where
  tells : Tells (l.take p) rs
  can : rs ++ restR l p = restR l 0
/-- What Runs tells. -/
def RunsPF (l : List Int) (w : World) (e : Ending) (w' : World) : Prop :=
  ∃ (rs : List (Int × Int)) (a : Option Addr) (c : Nat), e = .returned (.slice a rs.length c) ∧ OwnR w' a c rs ∧ Kept NoB w w' ∧ (∀ k, (Value.slice a rs.length c).ownBlock = some k → w.heap.size ≤ k) ∧
    (okL l → rs = restR l 0 ∧ Tells l rs ∧ rs.length ≤ l.length ∧ (l ≠ [] → rs ≠ [])) ∧ (¬ okL l → rs = [])

set_option maxRecDepth 20000 in
set_option maxHeartbeats 4000000 in
theorem runs_f (a : Option Addr) (c : Nat) (l : List Int) (B : Nat) (w : World) (hr : RdI w B a l) (hm : l.length ≤ 1000000) :
    Calls Tryz.prog 147 #[.slice a l.length c] w (RunsPF l w) := by
  have HR := Lib.hid hr
  have hib := inBounds_any a c l B w hr hm
  obtain ⟨n, hn⟩ : ∃ n, n = l.length := ⟨_, rfl⟩
  have HN := Lib.hid hn
  have hm2 : n ≤ 1000000 := by omega
  rw [← hn] at hib ⊢
  have hnone : ¬ okL l → RunsPF l w (.returned (.slice none 0 0)) w := fun h => ⟨[], none, 0, rfl, World.ownsRow_nil _ _ _ _, Kept.refl _ _, fun k hk => by simp [Value.ownBlock] at hk, fun h' => absurd h' h, fun _ => rfl⟩
  have HNone := Lib.hid hnone; have HIb := Lib.hid hib
  clear hr hn hm hnone hib
  by_cases h320 : 320 < n
  · have hno : ¬ okL l := fun h => by have := h.1; have := HN.out; omega
    have HNo := Lib.hid hno
    clear hno
    go_enter Tryz.func147, Tryz.ntmps147
    go_wp2
    go_ret
    exact HNone.out HNo.out
  · by_cases hall : ∀ z ∈ l, 0 ≤ z ∧ z ≤ 15
    · have hok : okL l := ⟨by have := HN.out; omega, hall⟩
      have hib := HIb.out
      rw [decide_eq_true hall] at hib
      have HIb2 := Lib.hid hib; have HOk := Lib.hid hok
      clear hib hall hok HIb HNone
      go_enter Tryz.func147, Tryz.ntmps147
      go_wp2_with fail
      refine HIb2.out.mono ?_
      rintro e w1 ⟨rfl, rfl⟩
      clear HIb2
      go_wp2
      go_loopw [3, 4, 5] (fun v3 v4 v5 wr => ∃ (p : Nat) (rs : List (Int × Int)) (a' : Option Addr) (c' : Nat), v3 = .slice a' rs.length c' ∧ v4 = .int .i64 (p : Int) ∧ p ≤ n ∧ Hid (TellF l p rs) ∧ Hid (rs.length ≤ p ∧ (p ≠ 0 → rs ≠ [])) ∧ Hid (OwnR wr a' c' rs) ∧ Hid (Kept NoB w wr) ∧ Hid (∀ k, (Value.slice a' rs.length c').ownBlock = some k → w.heap.size ≤ k)) (fun _ v4 _ _ => n - (intOf v4).toNat)
      case atStart => exact ⟨0, [], none, 0, rfl, rfl, by omega, ⟨by rw [List.take_zero]; exact Tells.nil, by rw [List.nil_append]⟩, ⟨by simp, fun h => absurd rfl h⟩, World.ownsRow_nil _ _ _ _, Kept.refl _ _, (fun k hk => by simp [Value.ownBlock] at hk)⟩
      case round =>
        obtain ⟨p, rs, a', c', rfl, rfl, hp, HT, HL, HO, HK, HF⟩ := hrel
        by_cases hlt : (p : Int) < n
        · obtain ⟨g, off, rfl, hgl, hcp⟩ := HR.out p (by have := HN.out; omega)
          have hcp' := HK.out.cell hcp
          obtain ⟨z, hz⟩ : ∃ z, z = l.getD p 0 := ⟨_, rfl⟩
          rw [← hz] at hcp'
          have hz15 : 0 ≤ z ∧ z ≤ 15 := by
            have hpl : p < l.length := by have := HN.out; omega
            have : z = l[p] := by rw [hz]; simp [List.getD, hpl]
            rw [this]; exact HOk.out.2 _ (List.getElem_mem hpl)
          have HZ := Lib.hid hz
          clear hz hcp hgl
          go_upto_block 2 with fail
          go_cut [5] from 20 to 36 (fun v5 wx => ∃ e : Nat, v5 = .int .i64 (e : Int) ∧ p < e ∧ e ≤ n ∧ Hid (l.take e = l.take p ++ List.replicate (e - p) z) ∧ Hid (e = n ∨ l.getD e 0 ≠ z) ∧ Hid (Kept NoB wr wx))
          case first =>
            go_wp2_with fail
            go_loopw [5] (fun v5 wx => ∃ e : Nat, v5 = .int .i64 (e : Int) ∧ p < e ∧ e ≤ n ∧ Hid (l.take e = l.take p ++ List.replicate (e - p) z) ∧ Hid (Kept NoB wr wx)) (fun v5 _ => n - (intOf v5).toNat)
            case atStart => exact ⟨p + 1, by go_num, by omega, by omega, take_more l p p z (by simp) (by have := HN.out; omega) (Nat.le_refl _) HZ.out.symm, Kept.refl _ _⟩
            case round =>
              rename_i wx
              obtain ⟨e, rfl, hpe, hen, HE, HKx⟩ := hrel
              have hcpx := HKx.out.cell hcp'
              by_cases hel : e < n
              · obtain ⟨g2, off2, hg2, _, hce⟩ := HR.out e (by have := HN.out; omega)
                cases hg2
                have hcex := HKx.out.cell (HK.out.cell hce)
                obtain ⟨x, hx⟩ : ∃ x, x = l.getD e 0 := ⟨_, rfl⟩
                rw [← hx] at hcex
                have hd : decide ((e : Int) < (n : Int)) = true := decide_eq_true (by omega)
                have HX := Lib.hid hx
                clear hx hce
                by_cases hxz : x = z
                · have htk := take_more l p e z HE.out (by have := HN.out; omega) (by omega) (by rw [← HX.out]; exact hxz)
                  have HTk := Lib.hid htk
                  have hb : (x == z) = true := by simp; exact hxz
                  clear htk
                  go_upto_region 7 with fail
                  go_quiet (fail)
                  go_wp2
                  go_roundw
                  case rel => exact ⟨e + 1, by go_num, by omega, by omega, HTk.out, HKx.out.drewN _⟩
                  case measure => simp [intOf]; omega
                · have hb : (x == z) = false := by simp; exact hxz
                  have HNe : Hid (e = n ∨ l.getD e 0 ≠ z) := Lib.hid (.inr (by rw [← HX.out]; exact hxz))
                  clear hxz
                  go_upto_region 7 with fail
                  go_quiet (fail)
                  go_wp2
                  go_meet
                  exact ⟨e, rfl, hpe, hen, HE, HNe, HKx.out.drewN _⟩
              · have hd : decide ((e : Int) < (n : Int)) = false := decide_eq_false (by omega)
                go_upto_region 7 with fail
                go_quiet (fail)
                go_wp2
                go_meet
                exact ⟨e, rfl, hpe, hen, HE, Lib.hid (.inl (by omega)), HKx.out.drewN _⟩
          case rest =>
          obtain ⟨e, rfl, hpe, hen, HE, HNe, HKx⟩ := hcut
          have hcpx := HKx.out.cell hcp'
          obtain ⟨t, ht⟩ : ∃ t : Nat, t = e - p := ⟨_, rfl⟩
          have hsub : (e : Int) - (p : Int) = (t : Int) := by omega
          have hrl : rs.length ≤ 1000 := by have := HL.out.1; omega
          have hap := appendRuns_f a' c' rs z t wc (HKx.out.row HO.out (fun _ _ h => h)) hz15 (by omega) hrl
          have HAp := Lib.hid hap; have HTt := Lib.hid ht
          clear hap ht
          go_wp2_with fail
          refine HAp.out.mono ?_
          rintro ee w2 ⟨rs', a2, c2, rfl, htold, hfst, hr1, hr2, hst⟩
          have htl : l.take e = l.take p ++ List.replicate t z := by rw [HTt.out]; exact HE.out
          have hgr : groupE l p = e := group_eq hpe (by rw [← HN.out]; exact hen) HZ.out HE.out (by rw [← HN.out]; exact HNe.out)
          have hT2 : TellF l e (rs ++ rs') := by
            refine ⟨by rw [htl]; exact HT.out.tells.more htold, ?_⟩
            have hc := HT.out.can
            rw [restR_step l (show p < l.length by rw [← HN.out]; omega), hgr, ← HZ.out, ← HTt.out, ← hfst, ← List.append_assoc] at hc
            exact hc
          have hK2 : Kept NoB w w2 := (HK.out.trans HKx.out).trans' hst.kept (fun k hk e => absurd hk (by have := HF.out k e; omega))
          have hF2 : ∀ k, (Value.slice a2 (rs ++ rs').length c2).ownBlock = some k → w.heap.size ≤ k := fun k hk => by
            rcases hst.fresh k hk with h | h
            · exact HF.out k h
            · have := (HK.out.trans HKx.out).size; omega
          have hL2 : (rs ++ rs').length ≤ e ∧ (e ≠ 0 → rs ++ rs' ≠ []) := by
            refine ⟨?_, fun _ h => ?_⟩
            · have := HL.out.1
              have := HTt.out
              rw [List.length_append]
              omega
            · have := congrArg List.length h
              rw [List.length_append] at this
              simp at this
              rw [this.2] at hr1
              simp at hr1
          have HT2 := Lib.hid hT2; have HK2 := Lib.hid hK2; have HF2 := Lib.hid hF2; have HL2 := Lib.hid hL2; have HO2 := Lib.hid hst.own
          obtain ⟨q, hq⟩ : ∃ q, q = rs ++ rs' := ⟨_, rfl⟩
          rw [← hq] at HT2 HF2 HL2 HO2 ⊢
          clear hT2 hK2 hF2 hL2 hst htold hr1 hr2 htl hq hcpx hcp' hgr hfst
          go_wp2
          go_roundw
          case rel => exact ⟨e, q, a2, c2, rfl, rfl, hen, HT2, HL2, HO2, HK2, HF2⟩
          case measure => simp [intOf]; omega
        · have hpn : p = n := by omega
          subst hpn
          go_wp2
          go_ret
          refine ⟨rs, a', c', rfl, HO.out, HK.out, HF.out, fun _ => ⟨?_, ?_, ?_, ?_⟩, fun h => absurd HOk.out h⟩
          · have h := HT.out.can
            rw [HN.out, restR_end, List.append_nil] at h
            exact h
          · have := HT.out.tells
            rw [HN.out, List.take_length] at this
            exact this
          · rw [← HN.out]; exact HL.out.1
          · intro hne
            exact HL.out.2 (by rw [HN.out]; intro h; exact hne (List.eq_nil_of_length_eq_zero h))
    · have hno : ¬ okL l := fun h => hall h.2
      have hib := HIb.out
      rw [decide_eq_false hall] at hib
      have HIb2 := Lib.hid hib; have HNo := Lib.hid hno
      clear hno hib hall HIb
      go_enter Tryz.func147, Tryz.ntmps147
      go_wp2_with fail
      refine HIb2.out.mono ?_
      rintro e w1 ⟨rfl, rfl⟩
      go_wp2
      go_ret
      exact HNone.out HNo.out
end Go.Proofs.YtfmjfgmbjdhogaaGreatDoor

namespace Go.Proofs.YtfmjfgmbjdhogaaGreatDoor
open Go.RowKit
set_option linter.unusedVariables false
set_option linter.unusedSimpArgs false

/-- How the program chooses a head's runs, code and how many of it are told. -/
structure HeadF (code : List Int) (told : Nat) (rs : List (Int × Int)) (F : List Int) : Prop where
  runs : rs = restR F 0
  best : ∃ lv, SrtP lv (leavesL 0 (cnt19 rs)) ∧ code = lensOf lv 19 7
  top : told = 4 ∨ code.getD (ordL.getD (told - 1) 0).toNat 0 ≠ 0
/-- There is one such head alone. -/
theorem HeadF.det {code code2 F : List Int} {told told2 : Nat} {rs rs2 : List (Int × Int)} (h : HeadF code told rs F) (hc : CodeW code told rs F) (h2 : HeadF code2 told2 rs2 F) (hc2 : CodeW code2 told2 rs2 F) : code = code2 ∧ told = told2 ∧ rs = rs2 := by
  have er : rs = rs2 := by rw [h.runs, h2.runs]
  subst er
  obtain ⟨lv, hs, e⟩ := h.best
  obtain ⟨lv2, hs2, e2⟩ := h2.best
  have el : lv = lv2 := srtP_eq hs hs2
  subst el
  have ec : code = code2 := by rw [e, e2]
  subst ec
  refine ⟨rfl, ?_, rfl⟩
  apply Classical.byContradiction
  intro hne
  have h4 := hc.lo; have h5 := hc2.lo; have h6 := hc.hi; have h7 := hc2.hi
  rcases Nat.lt_or_gt_of_ne hne with hlt | hlt
  · rcases h2.top with ht | ht
    · omega
    · exact ht (hc.rest (told2 - 1) (by omega) (by omega))
  · rcases h.top with ht | ht
    · omega
    · exact ht (hc2.rest (told - 1) (by omega) (by omega))
set_option maxRecDepth 20000 in
set_option maxHeartbeats 16000000 in
theorem lensWrite_f (la : Option Addr) (lc : Nat) (lit : List Int) (da : Option Addr) (dc : Nat) (dist : List Int) (B R : Nat) (ao : Option Addr) (cap : Nat) (bs : List Int) (s : Nat) (w : World) (hx : RdI w B la lit) (hy : RdI w B da dist)
    (hw : Wtr w R ao cap bs s) (hb : headB lit dist = true) (hss : s ≤ 1000000) :
    Calls Tryz.prog 124 #[.pointer (some ⟨R, 0, none⟩), .slice la lit.length lc, .slice da dist.length dc] w fun e w' => ∃ ao' cap' bs' code told rs, e = .returned (.int .i64 0) ∧ CodeW code told rs (lit ++ dist) ∧ HeadF code told rs (lit ++ dist) ∧ WroteP w R (.slice ao bs.length cap) bs s (headW lit dist code told rs) w' ao' cap' bs' := by
  obtain ⟨i0, hi, hz0, hz1, hz2⟩ := info_parts infoI
  obtain ⟨⟨b1, b2, b3, b4⟩, s1, s2, hmay⟩ := head_small hb
  have hmb := may_any la lc B lit da dc B dist w hx (fun z hz => by have := s1 z hz; omega) hy (fun z hz => by have := s2 z hz; omega) b1
  rw [hmay] at hmb
  obtain ⟨gl, ol, rfl, _, _⟩ := hx 0 (by omega)
  obtain ⟨gd, od, rfl, _, _⟩ := hy 0 (by omega)
  have HX := Lib.hid hx; have HY := Lib.hid hy; have HW := Lib.hid hw; have HS1 := Lib.hid s1; have HS2 := Lib.hid s2
  obtain ⟨nl, hnl⟩ : ∃ n, n = lit.length := ⟨_, rfl⟩
  obtain ⟨nd, hnd⟩ : ∃ n, n = dist.length := ⟨_, rfl⟩
  rw [← hnl, ← hnd] at hmb
  rw [← hnl] at b1 b2
  rw [← hnd] at b3 b4
  have HMb := Lib.hid hmb; have HNl := Lib.hid hnl; have HNd := Lib.hid hnd
  rw [← hnl, ← hnd]
  have g1 : ¬ (nl : Int) < 257 := by omega
  have g2 : ¬ (286 : Int) < (nl : Int) := by omega
  have g3 : ¬ (nd : Int) < 1 := by omega
  have g4 : ¬ (30 : Int) < (nd : Int) := by omega
  clear hx hy hw s1 s2 hb hmay hmb hnl hnd
  go_enter Tryz.func124, Tryz.ntmps124
  go_wp2_with fail
  with_reducible refine HMb.out.mono ?_
  rintro e w1 ⟨rfl, hk1⟩
  have HK1 := Lib.hid hk1
  clear hk1 HMb g1 g2 g3 g4
  go_wp2_with fail
  have hkA : Kept NoB w1 (w1.alloc (.cells #[.slice (some ⟨gl, ol, none⟩) nl lc, .slice (some ⟨gd, od, none⟩) nd dc] 30)) := (Kept.refl _ _).alloc _
  have hcc := concat_any w1.heap.size ⟨gl, ol, none⟩ lc lit ⟨gd, od, none⟩ dc B dist (w1.alloc (.cells #[.slice (some ⟨gl, ol, none⟩) nl lc, .slice (some ⟨gd, od, none⟩) nd dc] 30)) (by rw [← HNl.out]; exact cell_new 0 rfl) (by rw [← HNd.out]; exact cell_new 1 rfl)
    (HX.out.keptNo (HK1.out.trans hkA)) (HY.out.keptNo (HK1.out.trans hkA)) (by rw [← HNl.out]; omega) (by rw [← HNd.out]; omega)
  rw [← HNl.out, ← HNd.out] at hcc
  have HCc := Lib.hid hcc; have HKA := Lib.hid (HK1.out.trans hkA)
  clear hcc hkA
  with_reducible refine HCc.out.mono ?_
  rintro e w2 ⟨ca, cc, rfl, hst⟩
  obtain ⟨F, hF⟩ : ∃ F, F = lit ++ dist := ⟨_, rfl⟩
  have hFl : F.length = nl + nd := by rw [hF, List.length_append, HNl.out, HNd.out]
  rw [← hF] at hst
  have hFs : Small 15 F := fun z hz => by
    rw [hF] at hz
    rcases List.mem_append.1 hz with h | h
    · exact HS1.out z h
    · exact HS2.out z h
  have hrn := runs_f ca cc F _ w2 hst.reads (by omega)
  rw [hFl] at hrn
  have HRn := Lib.hid hrn; have HK2 := Lib.hid (HKA.out.trans hst.kept); have HF := Lib.hid hF; have HFl := Lib.hid hFl; have HFs := Lib.hid hFs
  clear hrn hst hF hFl hFs HCc HKA HK1
  go_wp2_with fail
  with_reducible refine HRn.out.mono ?_
  rintro e w3 ⟨rs, ra, rc, rfl, hro, hk3, _, hyes, _⟩
  obtain ⟨hrf, hT, hrl, hrne⟩ := hyes ⟨by rw [HFl.out]; omega, HFs.out⟩
  have hrun : runAll (F.length : Int) [] rs = some F := by
    have h := hT (F.length : Int) [] (by omega)
    rw [List.append_nil, if_pos (Int.le_refl _), runAll] at h
    exact h
  have hrne2 : rs ≠ [] := hrne (fun e => by have := HFl.out; rw [e] at this; simp at this; omega)
  have hok := runAll_ok _ rs [] F hrun
  have HRun := Lib.hid hrun; have HRne := Lib.hid hrne2; have HOk := Lib.hid hok; have HRo := Lib.hid hro; have HK3 := Lib.hid (HK2.out.trans hk3)
  obtain ⟨m, hm⟩ : ∃ m, m = rs.length := ⟨_, rfl⟩
  have hm316 : m ≤ 320 := by have := HFl.out; omega
  have HM := Lib.hid hm
  rw [← hm]
  have HRf := Lib.hid hrf
  clear hrf hT hrl hrne hrun hrne2 hok hro hk3 hyes hm HRn HK2
  go_wp2_with (at_make; refine wpList_make_full _ rfl _ _ _ rfl 0 3 i0 (.int .i64 0) 1 Tryz.underlying30 hi hz0 hz1 .i64 .i64 _ _ 19 rfl rfl rfl rfl (by rw [hz2]; omega) (by unfold maxLen; omega) (Nat.zero_le _) ?_)
  intro w4 hown hgrow
  obtain ⟨G, hG⟩ : ∃ G, G = w3.heap.size := ⟨_, rfl⟩
  have hGw : w.heap.size ≤ G := by rw [hG]; exact HK3.out.size
  rw [← hG] at hown ⊢
  have hk4 : Kept NoB w3 w4 := (Kept.refl NoB w3).grown hgrow (fun _ _ e => by cases e)
  have hO4 : w4.ownsRow 0 3 1 (.slice (some ⟨G, 0, none⟩) 19 19) 19 ((cnt19 (rs.take 0)).map (.int .i64)) := by
    unfold cnt19
    rw [List.take_zero, cntR, List.map_replicate, ← toList_madeCells_one]; exact hown
  have HO4 := Lib.hid hO4; have HK4 := Lib.hid (HK3.out.trans hk4)
  have hrg : RdRnG w4 (fun k => k < G) ra rs := fun i hi => by
    obtain ⟨g, o, h1, h2, h3, h4⟩ := HRo.out.reads i hi
    exact ⟨g, o, h1, by omega, hk4.cell h3, hk4.cell h4⟩
  have HRg := Lib.hid hrg; have HRo4 : Hid (OwnR w4 ra rc rs) := Lib.hid (hk4.row HRo.out (fun _ _ h => h))
  clear hown hgrow hO4 hk4 hrg HRo HK3 hG
  go_wp2_with fail
  go_loopw [47, 10] (fun v47 _ wr => ∃ i : Nat, v47 = .int .i64 (i : Int) ∧ i ≤ m ∧ Hid (wr.ownsRow 0 3 1 (.slice (some ⟨G, 0, none⟩) 19 19) 19 ((cnt19 (rs.take i)).map (.int .i64))) ∧ Hid (Kept NoB w wr) ∧ Hid (RdRnG wr (fun k => k < G) ra rs) ∧ Hid (OwnR wr ra rc rs)) (fun v47 _ _ => m - (intOf v47).toNat)
  case atStart => exact ⟨0, rfl, by omega, HO4, HK4, HRg, HRo4⟩
  case round =>
    clear HO4 HK4 HRg HRo4
    obtain ⟨i, rfl, him, HO, HK, HRg, HRo⟩ := hrel
    by_cases hlt : (i : Int) < m
    · have hil : i < rs.length := by have := HM.out; omega
      obtain ⟨g1, o1, rfl, _, x0, x0'⟩ := HRg.out i hil
      have htk : rs.take (i + 1) = rs.take i ++ [rs.getD i (0, 0)] := by
        rw [List.take_succ_eq_append_getElem hil]; simp [List.getD, hil]
      have hmem : rs.getD i (0, 0) ∈ rs := by
        have : rs.getD i (0, 0) = rs[i] := by simp [List.getD, hil]
        rw [this]; exact List.getElem_mem hil
      have hrg := HOk.out _ hmem
      obtain ⟨y, hy⟩ : ∃ y, y = rs.getD i (0, 0) := ⟨_, rfl⟩
      rw [← hy] at x0 x0' htk hrg
      obtain ⟨sy, x⟩ := y
      simp only at x0 x0' hrg
      obtain ⟨k, rfl⟩ : ∃ k : Nat, sy = (k : Int) := ⟨sy.toNat, by omega⟩
      have hk19 : k < 19 := by omega
      have hk19' : (k : Int) < 19 := by omega
      have hsn := cnt19_snoc (rs.take i) ((k : Int), x)
      rw [← htk] at hsn
      simp only [Int.toNat_natCast] at hsn
      have hcs := cnt19_small (rs.take i)
      have hzb := small_getD2 hcs k
      rw [List.length_take] at hzb
      have hmin : ((min i rs.length : Nat) : Int) ≤ 320 := by have := HM.out; omega
      obtain ⟨z, hz⟩ : ∃ z, z = (cnt19 (rs.take i)).getD k 0 := ⟨_, rfl⟩
      rw [← hz] at hsn hzb
      obtain ⟨H, hH⟩ : ∃ H, H = wr.heap.size := ⟨_, rfl⟩
      have hkA : Kept NoB wr (wr.alloc (.cells #[.int .i64 (k : Int), .int .i64 x] 125)) := (Kept.refl _ _).alloc _
      have hc0 : (wr.alloc (.cells #[.int .i64 (k : Int), .int .i64 x] 125)).cell? ⟨H, 0, none⟩ = some (.int .i64 (k : Int)) := by rw [hH]; exact cell_new 0 rfl
      go_upto_region 10 with fail
      rw [← hH]
      obtain ⟨w5, hw5⟩ : ∃ w5, w5 = wr.alloc (.cells #[.int .i64 (k : Int), .int .i64 x] 125) := ⟨_, rfl⟩
      rw [← hw5] at hc0 hkA ⊢
      have hO5 := hkA.row HO.out (fun _ _ h => h)
      have hcG : w5.cell? ⟨G, k, none⟩ = some (.int .i64 z) := by
        rw [hO5.cellAt k (by omega), hz]
        simp [List.getD, List.getElem?_map, show k < (cnt19 (rs.take i)).length by rw [cnt19_len]; exact hk19]
      have hfz := hO5.frozenAt k
      have hst := (hO5.stored k (.int .i64 (z + 1))).1
      rw [← List.map_set, ← hsn] at hst
      have hks : Kept (fun j => j = G) w5 (w5.setCell ⟨G, k, none⟩ (.int .i64 (z + 1))) := Kept.setCell (S := fun j => j = G) (p := ⟨G, k, none⟩) (Kept.refl _ w5) (.inl rfl) _
      have hkw : Kept NoB w (w5.setCell ⟨G, k, none⟩ (.int .i64 (z + 1))) := Kept.setCell (p := ⟨G, k, none⟩) (HK.out.trans hkA) (.inr hGw) _
      have HRg5 := Lib.hid ((HRg.out.kept hkA (fun k e h => h)).kept hks (fun k (e : k < G) h => by have h : k = G := h; omega))
      have hro5 : OwnR (w5.setCell ⟨G, k, none⟩ (.int .i64 (z + 1))) (some ⟨g1, o1, none⟩) rc rs := hks.row (hkA.row HRo.out (fun _ _ h => h)) (fun j e h => by
        have h : j = G := h
        simp [Value.ownBlock] at e
        omega)
      have hz1 : z + 1 ≤ 1000 := by omega
      have hz0 : 0 ≤ z := hzb.1
      have HSt := Lib.hid hst; have HKw := Lib.hid hkw; have HRo5 := Lib.hid hro5
      clear hst hks hkw hz hsn hcs hzb hmin htk hmem hrg hy hkA hw5 hO5 hro5 hH HO HK HRg HRo
      go_wp2
      go_roundw
      case rel => exact ⟨i + 1, by go_num, by omega, HSt, HKw, HRg5, HRo5⟩
      case measure => simp [intOf]; omega
    · have him2 : i = m := by omega
      subst him2
      have htk : rs.take i = rs := List.take_of_length_le (by rw [← HM.out]; exact Nat.le_refl _)
      have ho := HO.out
      rw [htk] at ho
      obtain ⟨A, hA⟩ : ∃ A, A = cnt19 rs := ⟨_, rfl⟩
      have hAl : A.length = 19 := by rw [hA, cnt19_len]
      have hAs : Small 1000000 A := fun z hz => by
        have := cnt19_small rs z (hA ▸ hz)
        have := HM.out
        omega
      have hApos : ∀ y ∈ rs, 0 < A.getD y.1.toNat 0 := fun y hy => by
        have h := HOk.out y hy
        rw [hA]; exact cnt19_pos rs y hy (by omega)
      rw [← hA] at ho
      have hok : LensOkP A 7 := ⟨by omega, by omega, hAs, by
        have := leaves_len A 0
        have h2 : (2 : Nat) ^ (7 : Int).toNat = 128 := by decide
        rw [h2]; omega⟩
      obtain ⟨y0, hy0⟩ : ∃ y0, y0 ∈ rs := List.exists_mem_of_ne_nil _ HRne.out
      have hlc := lens_yes (some ⟨G, 0, none⟩) 19 _ A 7 wr (own_readsI ho hAl) hok
      rw [hAl] at hlc
      have hcode : ∀ lv, SrtP lv (leavesL 0 A) → (lensOf lv 19 7).length = 19 ∧ Small 7 (lensOf lv 19 7) ∧ fullB (lensOf lv 19 7) = true ∧ ∀ y ∈ rs, HasC (lensOf lv 19 7) y.1 := fun lv h => by
        have h1 := HOk.out y0 hy0
        obtain ⟨c1, c2, c3, c4⟩ := code_of A lv hok h y0.1.toNat (by omega) (hApos y0 hy0)
        rw [hAl] at c1 c2 c3 c4
        refine ⟨c1, c2, c3, fun y hy => ?_⟩
        have h2 := HOk.out y hy
        exact ⟨y.1.toNat, by omega, by omega, (c4 _ (by omega)).1 (hApos y hy)⟩
      have HLc := Lib.hid hlc; have HCode := Lib.hid hcode; have HAe := Lib.hid hA
      clear htk ho hA hAl hAs hApos hok hy0 hlc hcode hlt HO
      go_wp2_with fail
      with_reducible refine HLc.out.mono ?_
      rintro e w5 ⟨lv, hsrt, za, zc, rfl, hzo, hk5⟩
      obtain ⟨q1, q2, q3, q4⟩ := HCode.out lv hsrt
      obtain ⟨Z, hZ⟩ : ∃ Z, Z = lensOf lv 19 7 := ⟨_, rfl⟩
      have e7 : (7 : Int).toNat = 7 := rfl
      rw [e7] at hzo
      have HZe : Hid (∃ lv, SrtP lv (leavesL 0 (cnt19 rs)) ∧ Z = lensOf lv 19 7) := Lib.hid ⟨lv, by rw [← HAe.out]; exact hsrt, hZ⟩
      rw [← hZ] at q1 q2 q3 q4 hzo
      rw [e7, ← hZ, q1]
      rw [q1] at hzo
      obtain ⟨gz, rfl⟩ := own_some hzo (by decide)
      have HQ1 := Lib.hid q1; have HQ2 := Lib.hid q2; have HQ3 := Lib.hid q3; have HQ4 := Lib.hid q4; have HZo := Lib.hid hzo; have HK5 := Lib.hid (HK.out.trans hk5); have HRo5 := Lib.hid (hk5.row HRo.out (fun _ _ h => h))
      clear q1 q2 q3 q4 hzo hk5 hsrt hZ HCode HLc HRo HRg HK
      go_wp2_with fail
      with_reducible refine (order19 w5).mono ?_
      rintro e w6 ⟨rfl, hor, hk6, hlt6⟩
      obtain ⟨H, hH⟩ : ∃ H, H = w5.heap.size := ⟨_, rfl⟩
      have hHw : w.heap.size ≤ H := by rw [hH]; exact HK5.out.size
      rw [← hH] at hor ⊢
      have hcw : ∀ i, i < 19 → w6.cell? ⟨H, i, none⟩ = some (.int .i64 (ordL.getD i 0)) := fun i hi => by
        obtain ⟨g, o, h1, h2, h3⟩ := hor i hi
        cases h1
        simpa using h3
      have HCw := Lib.hid hcw; have HK6 := Lib.hid (HK5.out.trans hk6); have HRo6 := Lib.hid (hk6.row HRo5.out (fun _ _ h => h)); have HZ6 := Lib.hid (hk6.row HZo.out (fun _ _ h => h))
      have hgz := (HZo.out.lt gz rfl).2
      have hHgz : gz ≠ H := by omega
      have hHlt : H < w6.heap.size := by omega
      clear hcw hor hk6 hlt6 hgz HK5 HRo5 HZo hH
      go_upto_block 2 with fail
      go_cut [14] from 70 to 85 (fun v14 wx => ∃ t : Nat, v14 = .int .i64 (t : Int) ∧ 4 ≤ t ∧ t ≤ 19 ∧ Hid (∀ i, t ≤ i → i < 19 → Z.getD (ordL.getD i 0).toNat 0 = 0) ∧ Hid (t = 4 ∨ Z.getD (ordL.getD (t - 1) 0).toNat 0 ≠ 0) ∧ w6 = wx)
      case first =>
        go_wp2_with fail
        go_loopw [14] (fun v14 wx => ∃ t : Nat, v14 = .int .i64 (t : Int) ∧ 4 ≤ t ∧ t ≤ 19 ∧ Hid (∀ i, t ≤ i → i < 19 → Z.getD (ordL.getD i 0).toNat 0 = 0) ∧ w6 = wx) (fun v14 _ => (intOf v14).toNat)
        case atStart => exact ⟨19, rfl, by omega, by omega, Lib.hid (fun i h1 h2 => by omega), rfl⟩
        case round =>
          obtain ⟨t, rfl, ht4, ht19, HZr, rfl⟩ := hrel
          by_cases hgt : 4 < t
          · have hgt2 : (4 : Int) < (t : Int) := by omega
            obtain ⟨u, hu⟩ : ∃ u, t = u + 1 := ⟨t - 1, by omega⟩
            have hu1 : IntKind.i64.wrap ((t : Int) - 1) = (u : Int) := by rw [IntWalk.i64_in _ (by omega)]; omega
            have hu2 : (t : Int) - 1 = (u : Int) := by omega
            have hu19 : u < 19 := by omega
            have hu19' : (u : Int) < 19 := by omega
            have hc := HCw.out u hu19
            have ho := ord_lt u hu19
            have hoa := ord_at u hu19
            obtain ⟨k, hk⟩ : ∃ k : Nat, ordL.getD u 0 = (k : Int) := ⟨(ordL.getD u 0).toNat, by omega⟩
            have HKe := Lib.hid hk
            rw [hk] at hc ho hoa
            have hk19' : (k : Int) < 19 := by omega
            have hk19 : k < 19 := by omega
            have hcz : w6.cell? ⟨gz, k, none⟩ = some (.int .i64 (Z.getD k 0)) := by
              rw [HZ6.out.cellAt k (by omega)]
              simp [List.getD, List.getElem?_map, show k < Z.length by rw [HQ1.out]; exact hk19]
            obtain ⟨z, hz⟩ : ∃ z, z = Z.getD k 0 := ⟨_, rfl⟩
            rw [← hz] at hcz
            have HZz := Lib.hid hz
            have HU := Lib.hid hu
            clear hk hz hu ho hoa
            by_cases hz0' : z = 0
            · subst hz0'
              go_wp2
              go_roundw
              case rel => exact ⟨u, by go_num, by omega, by omega, Lib.hid (fun i h1 h2 => by
                by_cases e : i = u
                · subst e; rw [HKe.out, Int.toNat_natCast]; exact HZz.out.symm
                · exact HZr.out i (by have := HU.out; omega) h2), trivial⟩
              case measure => have := HU.out; simp [intOf]; omega
            · have hzb : (z == 0) = false := by simp [hz0']
              have HNz : Hid (t = 4 ∨ Z.getD (ordL.getD (t - 1) 0).toNat 0 ≠ 0) := Lib.hid (.inr (by
                rw [show t - 1 = u by have := HU.out; omega, HKe.out, Int.toNat_natCast, ← HZz.out]; exact hz0'))
              go_wp2
              go_meet
              exact ⟨t, rfl, ht4, ht19, HZr, HNz, rfl⟩
          · have ht : ¬ (4 : Int) < (t : Int) := by omega
            go_wp2
            go_meet
            exact ⟨t, rfl, ht4, ht19, HZr, Lib.hid (.inl (by omega)), rfl⟩
      case rest =>
      obtain ⟨t, rfl, ht4, ht19, HZr, HNz, rfl⟩ := hcut
      have hrsl : 0 < rs.length := by
        have := HRne.out
        cases rs with
        | nil => exact absurd rfl this
        | cons => simp
      obtain ⟨gr, rfl⟩ := own_some HRo6.out hrsl
      have hw0 := HW.out.keptNo HK6.out
      have HDz := Lib.hid (row_off (T := 0) HZ6.out hw0 (by decide) (by decide))
      have HDr := Lib.hid (row_off (T := 0) HRo6.out hw0 (by decide) (by decide))
      have HDh : Hid (¬ OrB (OneB R) (OwnB (.slice ao bs.length cap)) H) := Lib.hid (by
        rintro (h | h)
        · unfold OneB at h
          have := obj_lt HW.out.1
          omega
        · have := own_lt HW.out.2.1 H h
          omega)
      clear hrsl hw0
      obtain ⟨x1, hx1⟩ : ∃ x, x = nl - 257 := ⟨_, rfl⟩
      obtain ⟨x2, hx2⟩ : ∃ x, x = nd - 1 := ⟨_, rfl⟩
      obtain ⟨x3, hx3⟩ : ∃ x, x = t - 4 := ⟨_, rfl⟩
      have d1 : (nl : Int) - 257 = (x1 : Int) := by omega
      have d2 : (nd : Int) - 1 = (x2 : Int) := by omega
      have d3 : (t : Int) - 4 = (x3 : Int) := by omega
      have y1 : x1 < 32 := by omega
      have y2 : x2 < 32 := by omega
      have y3 : x3 < 16 := by omega
      have c1 : IntKind.u32.wrap (x1 : Int) = (x1 : Int) := IntWalk.u32_in _ (by omega)
      have c2 : IntKind.u32.wrap (x2 : Int) = (x2 : Int) := IntWalk.u32_in _ (by omega)
      have c3 : IntKind.u32.wrap (x3 : Int) = (x3 : Int) := IntWalk.u32_in _ (by omega)
      have hw6 := HW.out.keptNo HK6.out
      have hp := put_any w6 R ao cap bs s x1 5 hw6 (by omega) (by decide) (by omega)
      rw [Nat.mod_eq_of_lt (show x1 < 2 ^ 5 from y1), show ((5 : Nat) : Int) = 5 from rfl] at hp
      have HX1 := Lib.hid hx1; have HX2 := Lib.hid hx2; have HX3 := Lib.hid hx3; have HP := Lib.hid hp; have HW6 := Lib.hid hw6
      clear hx1 hx2 hx3 hp hw6
      go_wp2_with fail
      with_reducible refine HP.out.mono ?_
      intro e w7 hp
      obtain ⟨ao7, cap7, bs7, rfl, hw7⟩ := (WroteP.nil HW6.out).put hp
      have hp2 := put_any w7 R ao7 cap7 bs7 _ x2 5 hw7.1 (by omega) (by decide) (by simp [wdN]; omega)
      rw [Nat.mod_eq_of_lt (show x2 < 2 ^ 5 from y2), show ((5 : Nat) : Int) = 5 from rfl] at hp2
      have HW7 := Lib.hid hw7; have HP2 := Lib.hid hp2
      clear hp hp2 hw7 HP
      go_wp2_with fail
      with_reducible refine HP2.out.mono ?_
      intro e w8 hp
      obtain ⟨ao8, cap8, bs8, rfl, hw8⟩ := HW7.out.put hp
      have hp3 := put_any w8 R ao8 cap8 bs8 _ x3 4 hw8.1 (by omega) (by decide) (by simp [wdN]; omega)
      rw [Nat.mod_eq_of_lt (show x3 < 2 ^ 4 from y3), show ((4 : Nat) : Int) = 4 from rfl] at hp3
      have HW8 := Lib.hid hw8; have HP3 := Lib.hid hp3
      clear hp hp3 hw8 HP2 HW7
      go_wp2_with fail
      with_reducible refine HP3.out.mono ?_
      intro e w9 hp
      obtain ⟨ao9, cap9, bs9, rfl, hw9⟩ := HW8.out.put hp
      have HW9 := Lib.hid (show WroteP w6 R (.slice ao bs.length cap) bs s ([(x1, 5), (x2, 5), (x3, 4)] ++ wordsC Z 0) w9 ao9 cap9 bs9 from hw9)
      clear hp hw9 HP3 HW8
      have t0 : (0 : Int) ≤ (t : Int) := by omega
      have t19 : (t : Int) ≤ 19 := by omega
      go_wp2_with fail
      go_loopw [106, 16] (fun v106 _ wr => ∃ (i : Nat) (ao' : Option Addr) (cap' : Nat) (bs' : List Int), v106 = .int .i64 (i : Int) ∧ i ≤ t ∧ Hid (WroteP w6 R (.slice ao bs.length cap) bs s ([(x1, 5), (x2, 5), (x3, 4)] ++ wordsC Z i) wr ao' cap' bs')) (fun v106 _ _ => t - (intOf v106).toNat)
      case atStart => exact ⟨0, ao9, cap9, bs9, rfl, by omega, HW9⟩
      case round =>
        clear HW9
        obtain ⟨j, ao', cap', bs', rfl, hjt, HWr⟩ := hrel
        by_cases hlt : (j : Int) < t
        · have hj19 : j < 19 := by omega
          have hc0 := HCw.out j hj19
          have hoa := ord_at j hj19
          obtain ⟨k, hk⟩ : ∃ k : Nat, ordL.getD j 0 = (k : Int) := ⟨(ordL.getD j 0).toNat, by omega⟩
          rw [hk] at hc0 hoa
          have hk19 : k < 19 := by omega
          have hk19' : (k : Int) < 19 := by omega
          have hcz0 : w6.cell? ⟨gz, k, none⟩ = some (.int .i64 (Z.getD k 0)) := by
            rw [HZ6.out.cellAt k (by omega)]
            simp [List.getD, List.getElem?_map, show k < Z.length by rw [HQ1.out]; exact hk19]
          have hzb := HQ2.out.getD k (by rw [HQ1.out]; exact hk19)
          obtain ⟨z, hz⟩ : ∃ z : Nat, Z.getD k 0 = (z : Int) := ⟨(Z.getD k 0).toNat, by omega⟩
          rw [hz] at hcz0 hzb
          have hkk := HWr.out.2.2.1
          have hc := (World.cell?_of_block (hkk.block _ (World.block_lt_of_cell? w6 _ hc0) HDh.out)).trans hc0
          have hcz := (World.cell?_of_block (hkk.block _ (World.block_lt_of_cell? w6 _ hcz0) HDz.out)).trans hcz0
          have hz8 : z < 8 := by omega
          have cz : IntKind.u32.wrap (z : Int) = (z : Int) := IntWalk.u32_in _ (by omega)
          have hwd : wdN ([(x1, 5), (x2, 5), (x3, 4)] ++ wordsC Z j) = 14 + 3 * j := by rw [wdN_append, wordsC_wd]; rfl
          have hp := put_any wr R ao' cap' bs' _ z 3 HWr.out.1 (by omega) (by decide) (by rw [hwd]; omega)
          rw [Nat.mod_eq_of_lt (show z < 2 ^ 3 from hz8), show ((3 : Nat) : Int) = 3 from rfl] at hp
          have HP := Lib.hid hp
          have HWs : Hid (wordsC Z (j + 1) = wordsC Z j ++ [(z, 3)]) := Lib.hid (by rw [wordsC_snoc, hk, Int.toNat_natCast, hz, Int.toNat_natCast])
          clear hc0 hcz0 hoa hk hz hkk hwd hp hzb
          go_wp2_with fail
          with_reducible refine HP.out.mono ?_
          intro e w10 hp
          obtain ⟨ao10, cap10, bs10, rfl, hw10⟩ := HWr.out.put hp
          rw [List.append_assoc, ← HWs.out] at hw10
          have HW10 := Lib.hid hw10
          clear hp hw10 HP
          go_wp2
          go_roundw
          case rel => exact ⟨j + 1, ao10, cap10, bs10, by go_num, by omega, HW10⟩
          case measure => simp [intOf]; omega
        · have hjt2 : j = t := by omega
          subst hjt2
          have hkk := HWr.out.2.2.1
          have hcode : RdG wr (fun k => k = gz ∨ k = gr) (some ⟨gz, 0, none⟩) Z := fun i hi => by
            have hc0 : w6.cell? ⟨gz, i, none⟩ = some (.int .i64 (Z.getD i 0)) := by
              rw [HZ6.out.cellAt i (by rw [HQ1.out] at hi; omega)]
              simp [List.getD, List.getElem?_map, hi]
            exact ⟨gz, 0, rfl, .inl rfl, by rw [Nat.zero_add]; exact (World.cell?_of_block (hkk.block _ (World.block_lt_of_cell? w6 _ hc0) HDz.out)).trans hc0⟩
          have hruns : RdRnG wr (fun k => k = gz ∨ k = gr) (some ⟨gr, 0, none⟩) rs := fun i hi => by
            obtain ⟨g, o, h1, _, h3, h4⟩ := OwnR.reads HRo6.out i hi
            cases h1
            exact ⟨gr, 0, rfl, .inr rfl, (World.cell?_of_block (hkk.block _ (World.block_lt_of_cell? w6 _ h3) HDr.out)).trans h3, (World.cell?_of_block (hkk.block _ (World.block_lt_of_cell? w6 _ h4) HDr.out)).trans h4⟩
          have hwd : wdN ([(x1, 5), (x2, 5), (x3, 4)] ++ wordsC Z j) = 14 + 3 * j := by rw [wdN_append, wordsC_wd]; rfl
          have hnew : ∀ k, (k = gz ∨ k = gr) → ¬ (Value.slice ao' bs'.length cap').ownBlock = some k := fun k hk e => by
            rcases HWr.out.2.2.2 k e with h | h
            · rcases hk with rfl | rfl
              · exact HDz.out (.inr h)
              · exact HDr.out (.inr h)
            · rcases hk with rfl | rfl
              · have := (HZ6.out.lt k rfl).2; omega
              · have := (HRo6.out.lt k rfl).2; omega
          have hwr := writeRuns_any Z (some ⟨gz, 0, none⟩) zc rs (some ⟨gr, 0, none⟩) rc (fun k => k = gz ∨ k = gr) R ao' cap' bs' _ wr hcode hruns HWr.out.1 (by
              rintro (h | h)
              · exact HDz.out (.inl (by unfold OneB; exact h.symm))
              · exact HDr.out (.inl (by unfold OneB; exact h.symm))) (fun k e h => hnew k h e) (small7_15 HQ2.out) (by rw [HQ1.out]; decide) (full_ref HQ3.out)
            (fun y hy => ⟨HQ4.out y hy, (HOk.out y hy).2.2⟩) (by rw [← HM.out]; omega) (by rw [hwd]; omega)
          rw [HQ1.out, ← HM.out] at hwr
          have HWrr := Lib.hid hwr
          clear hkk hcode hruns hwd hnew hwr
          go_wp2_with fail
          with_reducible refine HWrr.out.mono ?_
          rintro e w11 ⟨ao11, cap11, bs11, rfl, hw11⟩
          have hfin := HWr.out.app hw11
          have HFin := Lib.hid hfin
          clear hw11 hfin HWrr
          go_wp2
          go_ret
          refine ⟨ao11, cap11, bs11, Z, j, rs, rfl, ⟨HQ1.out, HQ2.out, HQ3.out, ht4, ht19, HZr.out, HQ4.out, by rw [← HF.out]; exact HRun.out⟩, ⟨by rw [← HF.out]; exact HRf.out, HZe.out, HNz.out⟩, ?_⟩
          have hh := HFin.out
          refine ⟨?_, ?_, (HK6.out.mono (fun _ _ h => h.elim)).trans hh.2.2.1, fun k hk => ?_⟩
          · unfold headW; rw [← HNl.out, ← HNd.out, ← HX1.out, ← HX2.out, ← HX3.out]; exact hh.1
          · unfold headW; rw [← HNl.out, ← HNd.out, ← HX1.out, ← HX2.out, ← HX3.out]; exact hh.2.1
          · rcases hh.2.2.2 k hk with h | h
            · exact .inl h
            · have := HK6.out.size; exact .inr (by omega)
end Go.Proofs.YtfmjfgmbjdhogaaGreatDoor

namespace Go.Proofs.YtfmjfgmbjdhogaaGreatDoor
open Go.RowKit
set_option linter.unusedVariables false

theorem conv_own {w : World} {ao : Option Addr} {n cap : Nat} {xs : List Int} (h : w.ownsRow 0 5 1 (.slice ao n cap) n (xs.map (.int .u8))) (hn : n = xs.length) :
    (convert 22 9 (.slice ao n cap)).run Tryz.prog w = .ok (.string (strOfNums xs)) w := by
  subst hn
  have hr := own_reads h rfl
  cases ao with
  | none =>
    have : xs = [] := hr.1 rfl
    subst this
    exact run_convert_bytes_nil (P := Tryz.prog) w _ 5 Tryz.underlying22 Tryz.underlying5 _ _ _ Tryz.underlying9
  | some a =>
    obtain ⟨g, rfl⟩ : ∃ g, a = ⟨g, 0, none⟩ := by
      rcases h.2 with ⟨hv, _⟩ | ⟨g, c, cur, hv, _⟩
      · simp at hv
      · simp at hv; exact ⟨g, hv.1⟩
    exact run_convert_bytes_arg (P := Tryz.prog) w _ 5 Tryz.underlying22 Tryz.underlying5 g 0 xs.length cap xs rfl (fun i hi => by
      have := hr.2 _ rfl i hi
      rwa [addr_add] at this) _ Tryz.underlying9

end Go.Proofs.YtfmjfgmbjdhogaaGreatDoor
