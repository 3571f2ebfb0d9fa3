/-
  sparse.Ok, written, Holes, pad, appendNumber.
-/
import Derived.Test.YtbambcondcikbaaDoorPcs
namespace Go.Proofs.YtbambcondcikbaaDoor
open Go.RowKit
set_option linter.unusedVariables false
set_option linter.unusedSimpArgs false

set_option maxRecDepth 20000 in
set_option maxHeartbeats 4000000 in
theorem spok_any (size : Int) (ao : Option Addr) (n cap : Nat) (l : List Pc) (w : World) (h0 : -9223372036854775808 ≤ size) (h1 : size ≤ 9223372036854775807) (hn : n = l.length) (hr : RdP w w.heap.size ao l) (hi : IntP l) (hc : n ≤ cap) (hcm : cap ≤ maxLen) :
    Calls Tryd.prog 15 #[.int .i64 size, .slice ao n cap] w fun e w' => e = .returned (.bool (okS size l)) ∧ Kept NoB w w' := by
  have hok : okS size l = (decide (0 ≤ size) && decide (size ≤ 1099511627776) && decide (l.length ≤ 1000) && okG size 0 l) := rfl
  obtain ⟨R, hR⟩ : ∃ R, R = okS size l := ⟨_, rfl⟩
  rw [← hR] at hok ⊢
  rw [← hn] at hok
  have HOk := Lib.hid hok; have HR := Lib.hid hr; have HN := Lib.hid hn; have HI := Lib.hid hi
  have hcm2 : n ≤ 9223372036854775807 := by unfold maxLen at hcm; omega
  clear hok hR hr hn hi hcm
  by_cases q1 : size < 0
  · have HF : Hid (R = false) := Lib.hid (by rw [HOk.out, decide_eq_false (by omega)]; simp)
    go_enter Tryd.func15, Tryd.ntmps15
    go_wp2
    go_ret
    exact ⟨by rw [HF.out]; rfl, Kept.refl _ _⟩
  by_cases q2 : 1099511627776 < size
  · have HF : Hid (R = false) := Lib.hid (by
      have : decide (size ≤ 1099511627776) = false := decide_eq_false (by omega)
      rw [HOk.out, this]; simp)
    go_enter Tryd.func15, Tryd.ntmps15
    go_wp2
    go_ret
    exact ⟨by rw [HF.out]; rfl, Kept.refl _ _⟩
  by_cases q3 : (1000 : Int) < (n : Int)
  · have HF : Hid (R = false) := Lib.hid (by
      have : decide (n ≤ 1000) = false := decide_eq_false (by omega)
      rw [HOk.out, this]; simp)
    go_enter Tryd.func15, Tryd.ntmps15
    go_wp2
    go_ret
    exact ⟨by rw [HF.out]; rfl, Kept.refl _ _⟩
  have HOk2 : Hid (R = okG size 0 l) := Lib.hid (by
    rw [HOk.out, decide_eq_true (show 0 ≤ size by omega), decide_eq_true (show size ≤ 1099511627776 by omega), decide_eq_true (show n ≤ 1000 by omega)]; rfl)
  have HSt := Lib.hid (fun i (hi : i < n) => (⟨okG_step size l i (by have := HN.out; omega), freeS_take l i (by have := HN.out; omega)⟩ : _ ∧ _))
  have HNo := Lib.hid (fun i => okG_take_no size l i)
  go_enter Tryd.func15, Tryd.ntmps15
  go_wp2
  go_loopw [5, 7, 21] (fun v5 v7 v21 wr => ∃ (i : Nat) (f : Int), v5 = .int .i64 f ∧ v21 = .int .i64 (i : Int) ∧ i ≤ n ∧ 0 ≤ f ∧ f ≤ 1099511627777 ∧ Hid (f = freeS (l.take i) ∧ okG size 0 (l.take i) = true ∧ Kept NoB w wr)) (fun _ _ v21 _ => n - (intOf v21).toNat)
  case atStart => exact ⟨0, 0, rfl, rfl, by omega, by omega, by omega, Lib.hid ⟨by simp [freeS], by simp [okG], Kept.refl _ _⟩⟩
  case round =>
    obtain ⟨i, f, rfl, rfl, hi, hf0, hf1, HS⟩ := hrel
    by_cases hlt : (i : Int) < (n : Int)
    · have hin : i < n := by omega
      obtain ⟨b, off, bo, bc, rfl, hb, c0, c1, _, _, c2, c3⟩ := HR.out i (by have := HN.out; omega)
      have d0 := HS.out.2.2.cell c0
      have d1 := HS.out.2.2.cell c1
      obtain ⟨e1, e2⟩ := HSt.out i hin
      have e3 := HNo.out (i + 1)
      have e4 := HI.out.at i (by have := HN.out; omega)
      obtain ⟨p, hp⟩ : ∃ p, p = l.getD i (0, []) := ⟨_, rfl⟩
      rw [← hp] at d0 d1 e1 e2 e4 c2
      rw [show off + (i * 2 + 1) = off + i * 2 + 1 by omega] at d1
      rw [HS.out.2.1, Bool.true_and, ← HS.out.1] at e1
      obtain ⟨z, hz⟩ : ∃ z, z = p.1 := ⟨_, rfl⟩
      obtain ⟨k, hk⟩ : ∃ k, k = p.2.length := ⟨_, rfl⟩
      have hke : p.2.isEmpty = decide (k = 0) := by rw [hk]; cases p.2 <;> simp
      rw [hke] at e1
      rw [← hz] at d0 e1 e2 e4
      rw [← hk] at d1 e1 e2 c2
      have hkb : k ≤ 9223372036854775807 := by unfold maxLen at c3; omega
      have HK1 := Lib.hid (HS.out.2.2.alloc (.cells #[.int .i64 z, .slice bo k bc] 30))
      have E1 := Lib.hid e1; have E2 := Lib.hid e2; have E3 := Lib.hid e3
      clear c0 c1 c2 c3 e1 e2 e3 hp hz hk hke
      by_cases x1 : k = 0
      · have y1 : ((k : Int) == 0) = true := by simp; omega
        have HF : Hid (R = false) := Lib.hid (by rw [HOk2.out]; exact E3.out (by rw [E1.out, decide_eq_true x1]; simp))
        clear x1
        go_wp2
        go_ret
        exact ⟨by rw [HF.out]; rfl, HK1.out⟩
      have y1 : ((k : Int) == 0) = false := by simp; omega
      by_cases x2 : z < f
      · have HF : Hid (R = false) := Lib.hid (by
          have : decide (f ≤ z) = false := decide_eq_false (by omega)
          rw [HOk2.out]; exact E3.out (by rw [E1.out, this]; simp))
        go_wp2
        go_ret
        exact ⟨by rw [HF.out]; rfl, HK1.out⟩
      by_cases x3 : size - (k : Int) < z
      · have HF : Hid (R = false) := Lib.hid (by
          have : decide (z ≤ size - (k : Int)) = false := decide_eq_false (by omega)
          rw [HOk2.out]; exact E3.out (by rw [E1.out, this]; simp))
        go_wp2
        go_ret
        exact ⟨by rw [HF.out]; rfl, HK1.out⟩
      · have HG : Hid (z + (k : Int) + 1 = freeS (l.take (i + 1)) ∧ okG size 0 (l.take (i + 1)) = true) := Lib.hid ⟨E2.out.symm, by
          rw [E1.out, decide_eq_false x1, decide_eq_true (show f ≤ z by omega), decide_eq_true (show z ≤ size - (k : Int) by omega)]; rfl⟩
        have hb1 : 0 ≤ z + (k : Int) + 1 := by omega
        have hb2 : z + (k : Int) + 1 ≤ 1099511627777 := by omega
        go_wp2
        go_roundw
        case rel => exact ⟨i + 1, z + (k : Int) + 1, by go_num, by go_num, by omega, hb1, hb2, Lib.hid ⟨HG.out.1, HG.out.2, HK1.out⟩⟩
        case measure => simp [intOf]; omega
    · have hie : i = n := by omega
      have HF : Hid (R = true) := Lib.hid (by
        have h := HS.out.2.1
        rw [hie, HN.out, List.take_length] at h
        rw [HOk2.out, h])
      clear hie
      go_wp2
      go_ret
      exact ⟨by rw [HF.out]; rfl, HS.out.2.2⟩

set_option maxRecDepth 20000 in
set_option maxHeartbeats 4000000 in
theorem written_any (ao : Option Addr) (n cap : Nat) (l : List Pc) (w : World) (hn : n = l.length) (hr : RdP w w.heap.size ao l) (hc : n ≤ cap) (hcm : cap ≤ maxLen) (hs : sumS l ≤ 9223372036854775807) :
    Calls Tryd.prog 35 #[.slice ao n cap] w fun e w' => e = .returned (.int .i64 (sumS l : Int)) ∧ Kept NoB w w' := by
  have HR := Lib.hid hr; have HN := Lib.hid hn
  have hcm2 : n ≤ 9223372036854775807 := by unfold maxLen at hcm; omega
  have HSt := Lib.hid (fun i (hi : i < n) => sumS_take l i (by omega))
  have hle : ∀ i, sumS (l.take i) ≤ sumS l := fun i => by
    have : sumS l = sumS (l.take i) + sumS (l.drop i) := by
      conv => lhs; rw [← List.take_append_drop i l]
      rw [sumS, List.map_append, List.sum_append]
      rfl
    omega
  obtain ⟨T, hT⟩ : ∃ T, T = sumS l := ⟨_, rfl⟩
  rw [← hT] at hle hs ⊢
  have HT := Lib.hid hT; have HLe := Lib.hid hle
  clear hr hn hcm hT hle
  go_enter Tryd.func35, Tryd.ntmps35
  go_wp2
  go_loopw [3, 5, 8] (fun v3 v5 v8 wr => ∃ i s : Nat, v3 = .int .i64 (s : Int) ∧ v8 = .int .i64 (i : Int) ∧ i ≤ n ∧ s ≤ T ∧ Hid (s = sumS (l.take i) ∧ Kept NoB w wr)) (fun _ _ v8 _ => n - (intOf v8).toNat)
  case atStart => exact ⟨0, 0, rfl, rfl, by omega, by omega, Lib.hid ⟨by simp [sumS], Kept.refl _ _⟩⟩
  case round =>
    obtain ⟨i, s, rfl, rfl, hi, hsT, HS⟩ := hrel
    by_cases hlt : (i : Int) < (n : Int)
    · have hin : i < n := by omega
      obtain ⟨b, off, bo, bc, rfl, hb, c0, c1, _⟩ := HR.out i (by have := HN.out; omega)
      have d0 := HS.out.2.cell c0
      have d1 := HS.out.2.cell c1
      have e1 := HSt.out i hin
      have e2 := HLe.out (i + 1)
      obtain ⟨p, hp⟩ : ∃ p, p = l.getD i (0, []) := ⟨_, rfl⟩
      rw [← hp] at d0 d1 e1
      rw [show off + (i * 2 + 1) = off + i * 2 + 1 by omega] at d1
      rw [← HS.out.1] at e1
      obtain ⟨z, hz⟩ : ∃ z, z = p.1 := ⟨_, rfl⟩
      obtain ⟨k, hk⟩ : ∃ k, k = p.2.length := ⟨_, rfl⟩
      rw [← hz] at d0
      rw [← hk] at d1 e1
      rw [e1] at e2
      have HK1 := Lib.hid (HS.out.2.alloc (.cells #[.int .i64 z, .slice bo k bc] 30))
      have E1 := Lib.hid e1
      clear c0 c1 e1 hp hz hk
      go_wp2
      go_roundw
      case rel => exact ⟨i + 1, s + k, by go_num, by go_num, by omega, by omega, Lib.hid ⟨E1.out.symm, HK1.out⟩⟩
      case measure => simp [intOf]; omega
    · have hie : i = n := by omega
      have HF : Hid (s = T) := Lib.hid (by
        have h := HS.out.1
        rw [hie, HN.out, List.take_length, ← HT.out] at h
        exact h)
      clear hie
      go_wp2
      go_ret
      exact ⟨by rw [← HF.out]; rfl, HS.out.2⟩

def holesS (size : Int) (l : List Pc) : Bool := okS size l && decide ((sumS l : Int) < size)
set_option maxRecDepth 20000 in
set_option maxHeartbeats 4000000 in
theorem holes_any (size : Int) (ao : Option Addr) (n cap : Nat) (l : List Pc) (w : World) (h0 : -9223372036854775808 ≤ size) (h1 : size ≤ 9223372036854775807) (hn : n = l.length) (hr : RdP w w.heap.size ao l) (hi : IntP l) (hc : n ≤ cap) (hcm : cap ≤ maxLen) :
    Calls Tryd.prog 16 #[.int .i64 size, .slice ao n cap] w fun e w' => e = .returned (.bool (holesS size l)) ∧ Kept NoB w w' := by
  have HO := Lib.hid (spok_any size ao n cap l w h0 h1 hn hr hi hc hcm)
  have hW := fun (hs : sumS l ≤ 9223372036854775807) (W : World) (h : Kept NoB w W) => written_any ao n cap l W hn ((hr.kept h).room h.size) hc hcm hs
  have hsum : okS size l = true → sumS l ≤ 9223372036854775807 := fun h => by
    simp only [okS, Bool.and_eq_true, decide_eq_true_eq] at h
    have := sumS_le size l 0 (by omega) (by omega) h.2
    omega
  have HW := Lib.hid hW; have HSum := Lib.hid hsum
  obtain ⟨R, hR⟩ : ∃ R, R = holesS size l := ⟨_, rfl⟩
  have hR2 : R = (okS size l && decide ((sumS l : Int) < size)) := hR
  rw [← hR]
  obtain ⟨ok, hok⟩ : ∃ ok, ok = okS size l := ⟨_, rfl⟩
  rw [← hok] at HO HSum hR2
  obtain ⟨T, hT⟩ : ∃ T, T = sumS l := ⟨_, rfl⟩
  rw [← hT] at HW HSum hR2
  have HR2 := Lib.hid hR2
  clear hR hR2 hok hT hW hsum hn hr hi hc hcm
  go_enter Tryd.func16, Tryd.ntmps16
  go_wp2_with fail
  refine HO.out.mono ?_
  rintro e w1 ⟨rfl, hk1⟩
  have HK1 := Lib.hid hk1
  clear hk1
  cases ok with
  | false =>
    have HF : Hid (R = false) := Lib.hid (by rw [HR2.out]; rfl)
    go_wp2
    go_ret
    exact ⟨by rw [HF.out]; rfl, HK1.out⟩
  | true =>
    have HW1 := Lib.hid (HW.out (HSum.out (by trivial)) w1 HK1.out)
    go_wp2_with fail
    refine HW1.out.mono ?_
    rintro e w2 ⟨rfl, hk2⟩
    have HK2 := Lib.hid (HK1.out.trans hk2)
    clear hk2
    have HF : Hid (R = decide ((T : Int) < size)) := Lib.hid (by rw [HR2.out]; rfl)
    go_wp2
    go_ret
    exact ⟨by rw [HF.out]; rfl, HK2.out⟩

set_option maxHeartbeats 1000000 in
theorem pad_any (n : Nat) (w : World) (hn : n ≤ 1000000000000) :
    Calls Tryd.prog 34 #[.int .i64 (n : Int)] w fun e w' => e = .returned (.int .i64 (padN n : Int)) ∧ w = w' := by
  obtain ⟨r, hr⟩ : ∃ r, r = n % 512 := ⟨_, rfl⟩
  have h1 : (n : Int) % 512 = (r : Int) := by omega
  have h2 : padN n = (512 - r) % 512 := by rw [hr]; rfl
  obtain ⟨q, hq⟩ : ∃ q, q = (512 - r) % 512 := ⟨_, rfl⟩
  have h3 : (512 - (r : Int)) % 512 = (q : Int) := by omega
  have hr5 : r < 512 := by omega
  rw [h2, ← hq]
  clear hr h2 hq
  go_enter Tryd.func34, Tryd.ntmps34
  go_wp2
  go_ret
  exact ⟨by rw [← h3]; rfl, rfl⟩
end Go.Proofs.YtbambcondcikbaaDoor
