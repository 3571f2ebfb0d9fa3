/-
  law7: same, long.
-/
import Derived.Test.YtifoldonmmobpaaDoorMatN
namespace Go.Proofs.YtifoldonmmobpaaDoor
open Go.RowKit
set_option linter.unusedVariables false
set_option linter.unusedSimpArgs false

theorem shr_go {L : List UInt8} {p a m k x : Nat} (h : x = k + shr L (p + k) (a + k) (m - k)) (hk : k < m) (he : L.getD (p + k) 0 = L.getD (a + k) 0) : x = k + 1 + shr L (p + (k + 1)) (a + (k + 1)) (m - (k + 1)) := by
  rw [show m - k = (m - (k + 1)) + 1 by omega, shr, if_pos he] at h
  rw [h, show p + k + 1 = p + (k + 1) by omega, show a + k + 1 = a + (k + 1) by omega]
  omega
theorem shr_out {L : List UInt8} {p a m k x : Nat} (h : x = k + shr L (p + k) (a + k) (m - k)) (hk : k < m) (he : L.getD (p + k) 0 ≠ L.getD (a + k) 0) : x = k := by
  rw [show m - k = (m - (k + 1)) + 1 by omega, shr, if_neg he] at h
  omega
theorem shr_all {L : List UInt8} {p a m k x : Nat} (h : x = k + shr L (p + k) (a + k) (m - k)) (hk : k = m) : x = k := by
  rw [show m - k = 0 by omega, shr] at h
  omega
set_option maxRecDepth 20000 in
set_option maxHeartbeats 4000000 in
theorem same7_any (ao : Option Addr) (n c a d : Nat) (L : List UInt8) (w : World) (hr : RowB w w.heap.size ao L) (hn : n = L.length) (hn3 : n ≤ 32768) (ha : a < n) (hd : 1 ≤ d) (hda : d ≤ a) :
    Calls Tryd.prog 12 #[.slice ao n c, .int .i64 (a : Int), .int .i64 (d : Int)] w fun e w' => e = .returned (.int .i64 ((candN L a d : Nat) : Int)) ∧ Kept NoB w w' := by
  obtain ⟨g, o, rfl, hg, hrd⟩ := hr (by omega)
  obtain ⟨x, hx⟩ : ∃ x, x = candN L a d := ⟨_, rfl⟩
  rw [← hx]
  rw [candN, mostN, ← hn] at hx
  obtain ⟨p, hp⟩ : ∃ p, p = a - d := ⟨_, rfl⟩
  obtain ⟨m, hm⟩ : ∃ m, m = min 258 (n - a) := ⟨_, rfl⟩
  rw [← hp, ← hm] at hx
  have HX : Hid (x = 0 + shr L (p + 0) (a + 0) (m - 0)) := Lib.hid (by rw [hx]; simp)
  have HRd := Lib.hid hrd; have HN := Lib.hid hn; have HM := Lib.hid hm
  have hm2 : m ≤ 258 ∧ m ≤ n - a := by omega
  have hap : a = p + d := by omega
  have HAp := Lib.hid hap
  clear hx hrd hn hp hm hap
  go_enter Tryd.func12, Tryd.ntmps12
  go_wp2_with fail
  go_loopw [7] (fun v7 wr => ∃ k : Nat, v7 = .int .i64 (k : Int) ∧ k ≤ m ∧ Hid (x = k + shr L (p + k) (a + k) (m - k)) ∧ Hid (Kept NoB w wr)) (fun v7 _ => 300 - (intOf v7).toNat)
  case atStart => exact ⟨0, rfl, by omega, HX, Lib.hid (Kept.refl _ _)⟩
  case round =>
    obtain ⟨k, rfl, hk, HX, HK⟩ := hrel
    obtain ⟨u, hu⟩ : ∃ u, u = a + k := ⟨_, rfl⟩
    obtain ⟨q, hq⟩ : ∃ q, q = p + k := ⟨_, rfl⟩
    have hw1 : IntKind.i64.wrap ((a : Int) + (k : Int)) = (u : Int) := by rw [hu]; exact (IntWalk.i64_in _ (by omega)).trans (by omega)
    have hw2 : IntKind.i64.wrap ((u : Int) - (d : Int)) = (q : Int) := by have := HAp.out; rw [hu, hq]; exact (IntWalk.i64_in _ (by omega)).trans (by omega)
    by_cases hkm : k < m
    · have g1' : (k : Int) < 258 := by omega
      have g1 : decide ((k : Int) < 258) = true := decide_eq_true g1'
      have g2' : (u : Int) < (n : Int) := by omega
      have g2 : decide ((u : Int) < (n : Int)) = true := decide_eq_true g2'
      have g3 : (q : Int) < (n : Int) := by have := HAp.out; omega
      have c1 := HK.out.cell (HRd.out u (by have := HN.out; omega))
      have c2 := HK.out.cell (HRd.out q (by have := HN.out; omega))
      rw [Nat.zero_add] at c1 c2
      by_cases he : L.getD (p + k) 0 = L.getD (a + k) 0
      · have HX2 := Lib.hid (shr_go HX.out hkm he)
        rw [hq, he, ← hq] at c2
        rw [hu] at c1
        rw [← hu] at c1
        rw [← hu] at c2
        generalize ((L.getD u 0).toNat : Int) = y at c1 c2
        have HU := Lib.hid hu; have HQ := Lib.hid hq
        clear he HX hu hq
        go_upto_region 2 with fail
        go_quiet (fail)
        have HK2 := Lib.hid (HK.out.drewN nq)
        go_wp2
        go_roundw
        case rel => exact ⟨k + 1, by go_num, by omega, HX2, HK2⟩
        case measure => simp [intOf]; omega
      · have HX2 := Lib.hid (shr_out HX.out hkm he)
        rw [← hu, ← hq] at he
        have hne : (((L.getD u 0).toNat : Int) == ((L.getD q 0).toNat : Int)) = false := by
          rw [beq_eq_false_iff_ne]
          intro h
          exact he (UInt8.toNat.inj (by omega))
        generalize ((L.getD u 0).toNat : Int) = y at c1 hne
        generalize ((L.getD q 0).toNat : Int) = y2 at c2 hne
        have HU := Lib.hid hu; have HQ := Lib.hid hq
        clear he HX hu hq
        go_upto_region 2 with fail
        go_quiet (fail)
        have HK2 := Lib.hid (HK.out.drewN nq)
        go_wp2
        go_ret
        exact ⟨by rw [HX2.out]; rfl, HK2.out⟩
    · have HX2 := Lib.hid (shr_all HX.out (show k = m by omega))
      have HU := Lib.hid hu; have HQ := Lib.hid hq
      have hux : k = 258 ∨ (k < 258 ∧ u = n) := by have := HM.out; have := HN.out; omega
      clear HX hu hq
      rcases hux with h | ⟨h, h2⟩
      · have g1 : decide ((k : Int) < 258) = false := decide_eq_false (by omega)
        clear h
        go_upto_region 2 with fail
        go_quiet (fail)
        have HK2 := Lib.hid (HK.out.drewN nq)
        go_wp2
        go_ret
        exact ⟨by rw [HX2.out]; rfl, HK2.out⟩
      · have g1 : decide ((k : Int) < 258) = true := decide_eq_true (by omega)
        have g1' : (k : Int) < 258 := by omega
        have g2' : ¬ (u : Int) < (n : Int) := by omega
        have g2 : decide ((u : Int) < (n : Int)) = false := decide_eq_false g2'
        clear h h2
        go_upto_region 2 with fail
        go_quiet (fail)
        have HK2 := Lib.hid (HK.out.drewN nq)
        go_wp2
        go_ret
        exact ⟨by rw [HX2.out]; rfl, HK2.out⟩
/-- The most of the first so many. -/
def topN (c : Nat → Nat) : Nat → Nat
  | 0 => 0
  | D + 1 => max (topN c D) (c (D + 1))
theorem topN_le (c : Nat → Nat) (x : Nat) : ∀ D, (∀ d, 1 ≤ d → d ≤ D → c d ≤ x) → topN c D ≤ x
  | 0, _ => Nat.zero_le _
  | D + 1, h => Nat.max_le.2 ⟨topN_le c x D (fun d h1 h2 => h d h1 (by omega)), h (D + 1) (by omega) (Nat.le_refl _)⟩
theorem topN_ge (c : Nat → Nat) : ∀ D d, 1 ≤ d → d ≤ D → c d ≤ topN c D
  | 0, d, h1, h2 => by omega
  | D + 1, d, h1, h2 => by
    by_cases h : d = D + 1
    · rw [h]; exact Nat.le_max_right _ _
    · exact Nat.le_trans (topN_ge c D d h1 (by omega)) (Nat.le_max_left _ _)
set_option maxRecDepth 20000 in
set_option maxHeartbeats 4000000 in
theorem long7_any (ao : Option Addr) (n c a D : Nat) (L : List UInt8) (w : World) (hr : RowB w w.heap.size ao L) (hn : n = L.length) (hn3 : n ≤ 32768) (ha : a < n) (hD : D ≤ a) :
    Calls Tryd.prog 11 #[.slice ao n c, .int .i64 (a : Int), .int .i64 (D : Int)] w fun e w' => e = .returned (.int .i64 ((topN (candN L a) D : Nat) : Int)) ∧ Kept NoB w w' := by
  have HS : Hid (∀ W d, Kept NoB w W → 1 ≤ d → d ≤ D → Calls Tryd.prog 12 #[.slice ao n c, .int .i64 (a : Int), .int .i64 (d : Int)] W fun e w' => e = .returned (.int .i64 ((candN L a d : Nat) : Int)) ∧ Kept NoB W w') := Lib.hid (fun W d hk h1 h2 => same7_any ao n c a d L W ((hr.kept hk).room hk.size) hn hn3 ha h1 (by omega))
  clear hr
  obtain ⟨f, hf⟩ : ∃ f, f = candN L a := ⟨_, rfl⟩
  rw [← hf] at HS ⊢
  clear hf hn
  go_enter Tryd.func11, Tryd.ntmps11
  go_wp2_with fail
  go_loopw [7, 8] (fun v7 v8 wr => ∃ i x : Nat, v8 = .int .i64 (i : Int) ∧ v7 = .int .i64 (x : Int) ∧ 1 ≤ i ∧ i ≤ D + 1 ∧ Hid (x = topN f (i - 1)) ∧ Hid (Kept NoB w wr)) (fun _ v8 _ => D + 1 - (intOf v8).toNat)
  case atStart => exact ⟨1, 0, rfl, rfl, by omega, by omega, Lib.hid rfl, Lib.hid (Kept.refl _ _)⟩
  case round =>
    obtain ⟨i, x, rfl, rfl, hi1, hiD, HX, HK⟩ := hrel
    by_cases hle : (i : Int) ≤ (D : Int)
    · have HC := Lib.hid (HS.out wr i HK.out hi1 (by omega))
      obtain ⟨y, hy⟩ : ∃ y, y = f i := ⟨_, rfl⟩
      rw [← hy] at HC
      obtain ⟨z, hz⟩ : ∃ z, z = max x y := ⟨_, rfl⟩
      have hzi : max (x : Int) (y : Int) = (z : Int) := by omega
      have HX2 : Hid (z = topN f i) := Lib.hid (by
        rw [hz, HX.out, hy]
        obtain ⟨j, rfl⟩ : ∃ j, i = j + 1 := ⟨i - 1, by omega⟩
        rfl)
      clear hy hz HX
      go_wp2_with fail
      with_reducible refine HC.out.mono ?_
      rintro e w2 ⟨rfl, hk2⟩
      have HK2 := Lib.hid (HK.out.trans hk2)
      clear hk2 HC
      go_wp2
      go_roundw
      case rel => exact ⟨i + 1, z, by go_num, rfl, by omega, by omega, HX2, HK2⟩
      case measure => simp [intOf]; omega
    · have hie : i = D + 1 := by omega
      have HX2 : Hid (x = topN f D) := Lib.hid (by rw [HX.out, hie]; rfl)
      clear HX hie
      go_wp2
      go_ret
      exact ⟨by rw [← HX2.out]; rfl, HK.out⟩
end Go.Proofs.YtifoldonmmobpaaDoor
