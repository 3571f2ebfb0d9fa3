/-
  lens: Runs.
-/
import Derived.Test.YtjdhjlfckalkoaaApp
import Derived.Deep.CutBlock
namespace Go.Proofs.Ytjdhjlfckalkoaa
open Go.RowKit
set_option linter.unusedVariables false
set_option linter.unusedSimpArgs false

def okL (l : List Int) : Prop := l.length ≤ 320 ∧ ∀ z ∈ l, 0 ≤ z ∧ z ≤ 15
theorem take_more (l : List Int) (p e : Nat) (z : Int) (h : l.take e = l.take p ++ List.replicate (e - p) z) (he : e < l.length) (hpe : p ≤ e) (hz : l.getD e 0 = z) : l.take (e + 1) = l.take p ++ List.replicate (e + 1 - p) z := by
  have hg : l[e] = z := by rw [← hz]; simp [List.getD, he]
  rw [List.take_succ_eq_append_getElem he, h, hg, show e + 1 - p = (e - p) + 1 by omega, List.replicate_succ', List.append_assoc]
/-- What Runs tells. -/
def RunsP (l : List Int) (w : World) (e : Ending) (w' : World) : Prop :=
  ∃ (rs : List (Int × Int)) (a : Option Addr) (c : Nat), e = .returned (.slice a rs.length c) ∧ OwnR w' a c rs ∧ Kept NoB w w' ∧ (∀ k, (Value.slice a rs.length c).ownBlock = some k → w.heap.size ≤ k) ∧
    (okL l → Tells l rs ∧ rs.length ≤ l.length ∧ (l ≠ [] → rs ≠ [])) ∧ (¬ okL l → rs = [])

set_option maxRecDepth 20000 in
set_option maxHeartbeats 4000000 in
theorem runs_any (a : Option Addr) (c : Nat) (l : List Int) (B : Nat) (w : World) (hr : RdI w B a l) (hm : l.length ≤ 1000000) :
    Calls Try.prog 6 #[.slice a l.length c] w (RunsP l w) := by
  have HR := Lib.hid hr
  have hib := inBounds_any a c l B w hr hm
  obtain ⟨n, hn⟩ : ∃ n, n = l.length := ⟨_, rfl⟩
  have HN := Lib.hid hn
  have hm2 : n ≤ 1000000 := by omega
  rw [← hn] at hib ⊢
  have hnone : ¬ okL l → RunsP l w (.returned (.slice none 0 0)) w := fun h => ⟨[], none, 0, rfl, World.ownsRow_nil _ _ _ _, Kept.refl _ _, fun k hk => by simp [Value.ownBlock] at hk, fun h' => absurd h' h, fun _ => rfl⟩
  have HNone := Lib.hid hnone; have HIb := Lib.hid hib
  clear hr hn hm hnone hib
  by_cases h320 : 320 < n
  · have hno : ¬ okL l := fun h => by have := h.1; have := HN.out; omega
    have HNo := Lib.hid hno
    clear hno
    go_enter Try.func6, Try.ntmps6
    go_wp2
    go_ret
    exact HNone.out HNo.out
  · by_cases hall : ∀ z ∈ l, 0 ≤ z ∧ z ≤ 15
    · have hok : okL l := ⟨by have := HN.out; omega, hall⟩
      have hib := HIb.out
      rw [decide_eq_true hall] at hib
      have HIb2 := Lib.hid hib; have HOk := Lib.hid hok
      clear hib hall hok HIb HNone
      go_enter Try.func6, Try.ntmps6
      go_wp2_with fail
      refine HIb2.out.mono ?_
      rintro e w1 ⟨rfl, rfl⟩
      clear HIb2
      go_wp2
      go_loopw [3, 4, 5] (fun v3 v4 v5 wr => ∃ (p : Nat) (rs : List (Int × Int)) (a' : Option Addr) (c' : Nat), v3 = .slice a' rs.length c' ∧ v4 = .int .i64 (p : Int) ∧ p ≤ n ∧ Hid (Tells (l.take p) rs) ∧ Hid (rs.length ≤ p ∧ (p ≠ 0 → rs ≠ [])) ∧ Hid (OwnR wr a' c' rs) ∧ Hid (Kept NoB w wr) ∧ Hid (∀ k, (Value.slice a' rs.length c').ownBlock = some k → w.heap.size ≤ k)) (fun _ v4 _ _ => n - (intOf v4).toNat)
      case atStart => exact ⟨0, [], none, 0, rfl, rfl, by omega, (by rw [List.take_zero]; exact Tells.nil), ⟨by simp, fun h => absurd rfl h⟩, World.ownsRow_nil _ _ _ _, Kept.refl _ _, (fun k hk => by simp [Value.ownBlock] at hk)⟩
      case round =>
        obtain ⟨p, rs, a', c', rfl, rfl, hp, HT, HL, HO, HK, HF⟩ := hrel
        by_cases hlt : (p : Int) < n
        · obtain ⟨g, off, rfl, hgl, hcp⟩ := HR.out p (by have := HN.out; omega)
          have hcp' := HK.out.cell hcp
          obtain ⟨z, hz⟩ : ∃ z, z = l.getD p 0 := ⟨_, rfl⟩
          rw [← hz] at hcp'
          have hz15 : 0 ≤ z ∧ z ≤ 15 := by
            have hpl : p < l.length := by have := HN.out; omega
            have : z = l[p] := by rw [hz]; simp [List.getD, hpl]
            rw [this]; exact HOk.out.2 _ (List.getElem_mem hpl)
          have HZ := Lib.hid hz
          clear hz hcp hgl
          go_upto_block 2 with fail
          go_cut [5] from 20 to 36 (fun v5 wx => ∃ e : Nat, v5 = .int .i64 (e : Int) ∧ p < e ∧ e ≤ n ∧ Hid (l.take e = l.take p ++ List.replicate (e - p) z) ∧ Hid (Kept NoB wr wx))
          case first =>
            go_wp2_with fail
            go_loopw [5] (fun v5 wx => ∃ e : Nat, v5 = .int .i64 (e : Int) ∧ p < e ∧ e ≤ n ∧ Hid (l.take e = l.take p ++ List.replicate (e - p) z) ∧ Hid (Kept NoB wr wx)) (fun v5 _ => n - (intOf v5).toNat)
            case atStart => exact ⟨p + 1, by go_num, by omega, by omega, take_more l p p z (by simp) (by have := HN.out; omega) (Nat.le_refl _) HZ.out.symm, Kept.refl _ _⟩
            case round =>
              rename_i wx
              obtain ⟨e, rfl, hpe, hen, HE, HKx⟩ := hrel
              have hcpx := HKx.out.cell hcp'
              by_cases hel : e < n
              · obtain ⟨g2, off2, hg2, _, hce⟩ := HR.out e (by have := HN.out; omega)
                cases hg2
                have hcex := HKx.out.cell (HK.out.cell hce)
                obtain ⟨x, hx⟩ : ∃ x, x = l.getD e 0 := ⟨_, rfl⟩
                rw [← hx] at hcex
                have hd : decide ((e : Int) < (n : Int)) = true := decide_eq_true (by omega)
                have HX := Lib.hid hx
                clear hx hce
                by_cases hxz : x = z
                · have htk := take_more l p e z HE.out (by have := HN.out; omega) (by omega) (by rw [← HX.out]; exact hxz)
                  have HTk := Lib.hid htk
                  have hb : (x == z) = true := by simp; exact hxz
                  clear htk
                  go_upto_region 7 with fail
                  go_quiet (fail)
                  go_wp2
                  go_roundw
                  case rel => exact ⟨e + 1, by go_num, by omega, by omega, HTk.out, HKx.out.drewN _⟩
                  case measure => simp [intOf]; omega
                · have hb : (x == z) = false := by simp; exact hxz
                  clear hxz
                  go_upto_region 7 with fail
                  go_quiet (fail)
                  go_wp2
                  go_meet
                  exact ⟨e, rfl, hpe, hen, HE, HKx.out.drewN _⟩
              · have hd : decide ((e : Int) < (n : Int)) = false := decide_eq_false (by omega)
                go_upto_region 7 with fail
                go_quiet (fail)
                go_wp2
                go_meet
                exact ⟨e, rfl, hpe, hen, HE, HKx.out.drewN _⟩
          case rest =>
          obtain ⟨e, rfl, hpe, hen, HE, HKx⟩ := hcut
          have hcpx := HKx.out.cell hcp'
          obtain ⟨t, ht⟩ : ∃ t : Nat, t = e - p := ⟨_, rfl⟩
          have hsub : (e : Int) - (p : Int) = (t : Int) := by omega
          have hrl : rs.length ≤ 1000 := by have := HL.out.1; omega
          have hap := appendRuns_any a' c' rs z t wc (HKx.out.row HO.out (fun _ _ h => h)) hz15 (by omega) hrl
          have HAp := Lib.hid hap; have HTt := Lib.hid ht
          clear hap ht
          go_wp2_with fail
          refine HAp.out.mono ?_
          rintro ee w2 ⟨rs', a2, c2, rfl, htold, hr1, hr2, hst⟩
          have htl : l.take e = l.take p ++ List.replicate t z := by rw [HTt.out]; exact HE.out
          have hT2 : Tells (l.take e) (rs ++ rs') := by rw [htl]; exact HT.out.more htold
          have hK2 : Kept NoB w w2 := (HK.out.trans HKx.out).trans' hst.kept (fun k hk e => absurd hk (by have := HF.out k e; omega))
          have hF2 : ∀ k, (Value.slice a2 (rs ++ rs').length c2).ownBlock = some k → w.heap.size ≤ k := fun k hk => by
            rcases hst.fresh k hk with h | h
            · exact HF.out k h
            · have := (HK.out.trans HKx.out).size; omega
          have hL2 : (rs ++ rs').length ≤ e ∧ (e ≠ 0 → rs ++ rs' ≠ []) := by
            refine ⟨?_, fun _ h => ?_⟩
            · have := HL.out.1
              have := HTt.out
              rw [List.length_append]
              omega
            · have := congrArg List.length h
              rw [List.length_append] at this
              simp at this
              rw [this.2] at hr1
              simp at hr1
          have HT2 := Lib.hid hT2; have HK2 := Lib.hid hK2; have HF2 := Lib.hid hF2; have HL2 := Lib.hid hL2; have HO2 := Lib.hid hst.own
          obtain ⟨q, hq⟩ : ∃ q, q = rs ++ rs' := ⟨_, rfl⟩
          rw [← hq] at HT2 HF2 HL2 HO2 ⊢
          clear hT2 hK2 hF2 hL2 hst htold hr1 hr2 htl hq hcpx hcp'
          go_wp2
          go_roundw
          case rel => exact ⟨e, q, a2, c2, rfl, rfl, hen, HT2, HL2, HO2, HK2, HF2⟩
          case measure => simp [intOf]; omega
        · have hpn : p = n := by omega
          subst hpn
          go_wp2
          go_ret
          refine ⟨rs, a', c', rfl, HO.out, HK.out, HF.out, fun _ => ⟨?_, ?_, ?_⟩, fun h => absurd HOk.out h⟩
          · have := HT.out
            rw [HN.out, List.take_length] at this
            exact this
          · rw [← HN.out]; exact HL.out.1
          · intro hne
            exact HL.out.2 (by rw [HN.out]; intro h; exact hne (List.eq_nil_of_length_eq_zero h))
    · have hno : ¬ okL l := fun h => hall h.2
      have hib := HIb.out
      rw [decide_eq_false hall] at hib
      have HIb2 := Lib.hid hib; have HNo := Lib.hid hno
      clear hno hib hall HIb
      go_enter Try.func6, Try.ntmps6
      go_wp2_with fail
      refine HIb2.out.mono ?_
      rintro e w1 ⟨rfl, rfl⟩
      go_wp2
      go_ret
      exact HNone.out HNo.out
end Go.Proofs.Ytjdhjlfckalkoaa
