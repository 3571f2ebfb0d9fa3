/-
  The document's side of maps: MapOk, Holes, noughts, Pad.
-/
import Derived.Test.YtbambcondcikbaaDoorRMapP
import Derived.Test.YtbambcondcikbaaDoorRNumy
import Derived.Test.YtbambcondcikbaaDoorMark
namespace Go.Proofs.YtbambcondcikbaaDoor
open Go.RowKit
set_option linter.unusedVariables false
set_option linter.unusedSimpArgs false

set_option maxRecDepth 20000 in
set_option maxHeartbeats 4000000 in
theorem rmapok_any (size : Int) (ao : Option Addr) (n cap : Nat) (l : List Pc) (w : World) (h0 : -9223372036854775808 ≤ size) (h1 : size ≤ 9223372036854775807) (hn : n = l.length) (hr : RdP w w.heap.size ao l) (hi : IntP l) (hc : n ≤ cap) (hcm : cap ≤ maxLen) :
    Calls Tryd.prog 22 #[.int .i64 size, .slice ao n cap] w fun e w' => e = .returned (.bool (okS size l)) ∧ Kept NoB w w' := by
  have hok : okS size l = (decide (0 ≤ size) && decide (size ≤ 1099511627776) && decide (l.length ≤ 1000) && okG size 0 l) := rfl
  obtain ⟨R, hR⟩ : ∃ R, R = okS size l := ⟨_, rfl⟩
  rw [← hR] at hok ⊢
  rw [← hn] at hok
  have HOk := Lib.hid hok; have HR := Lib.hid hr; have HN := Lib.hid hn; have HI := Lib.hid hi
  have hcm2 : n ≤ 9223372036854775807 := by unfold maxLen at hcm; omega
  clear hok hR hr hn hi hcm
  by_cases q1 : size < 0
  · have HF : Hid (R = false) := Lib.hid (by rw [HOk.out, decide_eq_false (by omega)]; simp)
    go_enter Tryd.func22, Tryd.ntmps22
    go_wp2
    go_ret
    exact ⟨by rw [HF.out]; rfl, Kept.refl _ _⟩
  by_cases q2 : 1099511627776 < size
  · have HF : Hid (R = false) := Lib.hid (by
      have : decide (size ≤ 1099511627776) = false := decide_eq_false (by omega)
      rw [HOk.out, this]; simp)
    go_enter Tryd.func22, Tryd.ntmps22
    go_wp2
    go_ret
    exact ⟨by rw [HF.out]; rfl, Kept.refl _ _⟩
  by_cases q3 : (1000 : Int) < (n : Int)
  · have HF : Hid (R = false) := Lib.hid (by
      have : decide (n ≤ 1000) = false := decide_eq_false (by omega)
      rw [HOk.out, this]; simp)
    go_enter Tryd.func22, Tryd.ntmps22
    go_wp2
    go_ret
    exact ⟨by rw [HF.out]; rfl, Kept.refl _ _⟩
  have HOk2 : Hid (R = okG size 0 l) := Lib.hid (by
    rw [HOk.out, decide_eq_true (show 0 ≤ size by omega), decide_eq_true (show size ≤ 1099511627776 by omega), decide_eq_true (show n ≤ 1000 by omega)]; rfl)
  have HSt := Lib.hid (fun i (hi : i < n) => (⟨okG_step size l i (by have := HN.out; omega), freeS_take l i (by have := HN.out; omega)⟩ : _ ∧ _))
  have HNo := Lib.hid (fun i => okG_take_no size l i)
  go_enter Tryd.func22, Tryd.ntmps22
  go_wp2
  go_loopw [5, 6] (fun v5 v6 wr => ∃ (i : Nat) (e : Int), v5 = .int .i64 e ∧ v6 = .int .i64 (i : Int) ∧ i ≤ n ∧ -1 ≤ e ∧ e ≤ 1099511627776 ∧ Hid (e + 1 = freeS (l.take i) ∧ okG size 0 (l.take i) = true ∧ Kept NoB w wr)) (fun _ v6 _ => n - (intOf v6).toNat)
  case atStart => exact ⟨0, -1, rfl, rfl, by omega, by omega, by omega, Lib.hid ⟨by simp [freeS], by simp [okG], Kept.refl _ _⟩⟩
  case round =>
    obtain ⟨i, e, rfl, rfl, hi, hf0, hf1, HS⟩ := hrel
    by_cases hlt : (i : Int) < (n : Int)
    · have hin : i < n := by omega
      obtain ⟨b, off, bo, bc, rfl, hb, c0, c1, _, _, c2, c3⟩ := HR.out i (by have := HN.out; omega)
      have d0 := HS.out.2.2.cell c0
      have d1 := HS.out.2.2.cell c1
      obtain ⟨e1, e2⟩ := HSt.out i hin
      have e3 := HNo.out (i + 1)
      have e4 := HI.out.at i (by have := HN.out; omega)
      obtain ⟨p, hp⟩ : ∃ p, p = l.getD i (0, []) := ⟨_, rfl⟩
      rw [← hp] at d0 d1 e1 e2 e4 c2
      rw [show off + (i * 2 + 1) = off + i * 2 + 1 by omega] at d1
      rw [HS.out.2.1, Bool.true_and, ← HS.out.1] at e1
      obtain ⟨z, hz⟩ : ∃ z, z = p.1 := ⟨_, rfl⟩
      obtain ⟨k, hk⟩ : ∃ k, k = p.2.length := ⟨_, rfl⟩
      have hke : p.2.isEmpty = decide (k = 0) := by rw [hk]; cases p.2 <;> simp
      rw [hke] at e1
      rw [← hz] at d0 e1 e2 e4
      rw [← hk] at d1 e1 e2 c2
      have hkb : k ≤ 9223372036854775807 := by unfold maxLen at c3; omega
      have E1 := Lib.hid e1; have E2 := Lib.hid e2; have E3 := Lib.hid e3
      clear c0 c1 c2 c3 e1 e2 e3 hp hz hk hke
      by_cases x1 : k = 0
      · have HF : Hid (R = false) := Lib.hid (by rw [HOk2.out]; exact E3.out (by rw [E1.out, decide_eq_true x1]; simp))
        subst x1
        go_upto_region 7 with fail
        go_quiet (fail)
        go_wp2
        go_ret
        exact ⟨by rw [HF.out]; rfl, HS.out.2.2.drewN _⟩
      have y1 : ((k : Int) == 0) = false := by simp; omega
      by_cases x2 : z ≤ e
      · have HF : Hid (R = false) := Lib.hid (by
          have : decide (e + 1 ≤ z) = false := decide_eq_false (by omega)
          rw [HOk2.out]; exact E3.out (by rw [E1.out, this]; simp))
        have g1 : decide (z ≤ e) = true := decide_eq_true x2
        go_upto_region 7 with fail
        go_quiet (fail)
        go_wp2
        go_ret
        exact ⟨by rw [HF.out]; rfl, HS.out.2.2.drewN _⟩
      have g1 : decide (z ≤ e) = false := decide_eq_false (by omega)
      have g2 : decide (z < 0) = false := decide_eq_false (by omega)
      by_cases x3 : size < z
      · have HF : Hid (R = false) := Lib.hid (by
          have : decide (z ≤ size - (k : Int)) = false := decide_eq_false (by omega)
          rw [HOk2.out]; exact E3.out (by rw [E1.out, this]; simp))
        have g3 : decide (size < z) = true := decide_eq_true x3
        go_upto_region 7 with fail
        go_quiet (fail)
        go_wp2
        go_ret
        exact ⟨by rw [HF.out]; rfl, HS.out.2.2.drewN _⟩
      have g3 : decide (size < z) = false := decide_eq_false x3
      have hww : IntKind.i64.wrap (size - z) = size - z := IntWalk.i64_in _ (by omega)
      obtain ⟨d, hd⟩ : ∃ d, d = size - z := ⟨_, rfl⟩
      by_cases x4 : size - z < (k : Int)
      · have HF : Hid (R = false) := Lib.hid (by
          have : decide (z ≤ size - (k : Int)) = false := decide_eq_false (by omega)
          rw [HOk2.out]; exact E3.out (by rw [E1.out, this]; simp))
        have g4 : decide (size - z < (k : Int)) = true := decide_eq_true x4
        go_upto_region 7 with fail
        go_quiet (fail)
        go_wp2
        go_ret
        exact ⟨by rw [HF.out]; rfl, HS.out.2.2.drewN _⟩
      · have HG : Hid (z + (k : Int) + 1 = freeS (l.take (i + 1)) ∧ okG size 0 (l.take (i + 1)) = true) := Lib.hid ⟨E2.out.symm, by
          rw [E1.out, decide_eq_false x1, decide_eq_true (show e + 1 ≤ z by omega), decide_eq_true (show z ≤ size - (k : Int) by omega)]; rfl⟩
        have g4 : decide (size - z < (k : Int)) = false := decide_eq_false x4
        have hb1 : -1 ≤ z + (k : Int) := by omega
        have hb2 : z + (k : Int) ≤ 1099511627776 := by omega
        go_upto_region 7 with fail
        go_quiet (fail)
        have HK2 := Lib.hid (HS.out.2.2.drewN nq)
        obtain ⟨wq, hwq⟩ : ∃ wq, wq = wr.drewN nq := ⟨_, rfl⟩
        have e0 : wq.cell? ⟨b, off + i * 2, none⟩ = some (.int .i64 z) := by rw [hwq]; exact d0
        have e1 : wq.cell? ⟨b, off + i * 2 + 1, none⟩ = some (.slice bo k bc) := by rw [hwq]; exact d1
        rw [← hwq] at HK2 ⊢
        clear d0 d1 hwq
        go_wp2_with fail
        go_region
        go_wp2
        go_roundw
        case rel => exact ⟨i + 1, z + (k : Int), by go_num, by go_num, by omega, hb1, hb2, Lib.hid ⟨HG.out.1, HG.out.2, HK2.out.drewN _⟩⟩
        case measure => simp [intOf]; omega
    · have hie : i = n := by omega
      have HF : Hid (R = true) := Lib.hid (by
        have h := HS.out.2.1
        rw [hie, HN.out, List.take_length] at h
        rw [HOk2.out, h])
      clear hie
      go_wp2
      go_ret
      exact ⟨by rw [HF.out]; rfl, HS.out.2.2⟩
end Go.Proofs.YtbambcondcikbaaDoor
