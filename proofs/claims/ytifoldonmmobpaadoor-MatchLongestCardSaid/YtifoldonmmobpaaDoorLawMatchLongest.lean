/-
  MatchLongest: the row that is told was there, can't be longer from where it was, and nowhere nearer is one as long.
-/
import Derived.Test.YtifoldonmmobpaaDoorMatR
import Derived.Test.YtifoldonmmobpaaDoorMatW
namespace Go.Proofs.YtifoldonmmobpaaDoor
open Go.RowKit
set_option linter.unusedVariables false
set_option linter.unusedSimpArgs false

/-- What the law asks, on paper. -/
theorem longest_says (L : List UInt8) (a : Nat) (ha : a < L.length) (h3 : a ≤ 32768) : ((longN L a).1 = 0 ∧ (longN L a).2 = 0 ∧ topN (candN L a) a < 3) ∨
    (3 ≤ (longN L a).1 ∧ (longN L a).1 ≤ 258 ∧ a + (longN L a).1 ≤ L.length ∧ 1 ≤ (longN L a).2 ∧ (longN L a).2 ≤ a ∧ candN L a (longN L a).2 = (longN L a).1 ∧ topN (candN L a) ((longN L a).2 - 1) < (longN L a).1 ∧ topN (candN L a) a = (longN L a).1) := by
  have hmin : min a 32768 = a := by omega
  rcases long_ok L a with ⟨h1, h2, h4⟩ | ⟨h1, h2, h4, h5, h6, h7⟩
  · rw [hmin] at h4
    have := topN_le (candN L a) 2 a h4
    exact .inl ⟨h1, h2, by omega⟩
  · rw [hmin] at h5 h7
    rw [mostN] at h2
    refine .inr ⟨h1, by omega, by omega, h4, h5, h6, ?_, ?_⟩
    · have := topN_le (candN L a) ((longN L a).1 - 1) ((longN L a).2 - 1) (fun d e1 e2 => by have := (h7 d e1 (by omega)).2 (by omega); omega)
      omega
    · have e1 := topN_le (candN L a) (longN L a).1 a (fun d e1 e2 => (h7 d e1 e2).1)
      have e2 := topN_ge (candN L a) a _ h4 h5
      omega
set_option maxRecDepth 20000 in
set_option maxHeartbeats 4000000 in
theorem matchLongest_walk (bo : Option Addr) (bl cb : Nat) (B : List UInt8) (lo : Option Addr) (nl cl : Nat) (zs : List Int) (at0 : Int) (w : World) (hbl : bl = B.length) (hrb : Reads w bo (nb B)) (hbn : bo = none → cb = 0) (hbc : bl ≤ cb) (hbm : cb ≤ maxLen) (hl : RdI w w.heap.size lo zs) (hnl : nl = zs.length) (hlc : nl ≤ cl) (hcm : cl ≤ maxLen) (hT : DeB w) :
    Calls Tryd.prog 4 #[.slice bo bl cb, .slice lo nl cl, .int .i64 at0] w fun e w' => e = .returned (.bool true) ∧ Below w.heap.size w w' := by
  have HRw := Lib.hid (rows7_any bo bl cb B lo nl cl zs w hbl hrb hbn hbc hbm hl hnl hlc hcm)
  have HAw : Hid (∀ W, Kept NoB w W → Calls Tryd.prog 8 #[] W fun e w' => e = .returned (.bool true) ∧ Kept NoB W w') := Lib.hid (fun W hk => awake7 W (hT.kept hk))
  have HT := Lib.hid hT
  clear hbl hrb hbn hl hnl hbc hbm hlc hcm hT
  go_enter Tryd.func4, Tryd.ntmps4
  by_cases h100 : (100 : Int) < (bl : Int)
  · have HA := Lib.hid (HAw.out w (Kept.refl _ _))
    go_wp2_with fail
    with_reducible refine HA.out.mono ?_
    rintro e w1 ⟨rfl, hk1⟩
    have hb1 : Below w.heap.size w w1 := hk1.belowNo (Below.refl _ _)
    clear hk1
    go_wp2
    go_ret
    exact ⟨rfl, hb1⟩
  · go_wp2_with fail
    with_reducible refine HRw.out.mono ?_
    rintro e w1 ⟨x, a, m, c, rfl, hm, hS⟩
    have HS := Lib.hid hS
    have HK1 := Lib.hid hS.kept
    have hmx := hS.len
    by_cases hz : m = 0
    · have g0 : ((m : Int) == 0) = true := by simp [hz]
      have HA := Lib.hid (HAw.out w1 HK1.out)
      clear hS hmx hz
      go_wp2_with fail
      with_reducible refine HA.out.mono ?_
      rintro e w2 ⟨rfl, hk2⟩
      have hb2 : Below w.heap.size w w2 := (HK1.out.trans hk2).belowNo (Below.refl _ _)
      clear hk2
      go_wp2
      go_ret
      exact ⟨rfl, hb2⟩
    · have g0 : ((m : Int) == 0) = false := by simp; omega
      have hmk := mask65535 at0
      obtain ⟨Y, hY⟩ : ∃ Y : Nat, (Y : Int) = at0 % 65536 := ⟨(at0 % 65536).toNat, by omega⟩
      rw [← hY] at hmk
      obtain ⟨A, hA⟩ : ∃ A : Nat, (A : Int) = (Y : Int) % (m : Int) := ⟨((Y : Int) % (m : Int)).toNat, Int.toNat_of_nonneg (Int.emod_nonneg _ (by omega))⟩
      have hAm : A < m := by have := Int.emod_lt_of_pos (Y : Int) (show (0 : Int) < m by omega); omega
      have hA2 : (Y : Int) % (m : Int) = (A : Int) := hA.symm
      have hA3 : (Y : Int).tmod (m : Int) = (A : Int) := by rw [Int.tmod_eq_emod_of_nonneg (by omega)]; exact hA.symm
      have hcap := hS.cap
      have hcm : c ≤ 9223372036854775807 := by have := hcap.2.1; unfold maxLen at this; omega
      have hrow := hS.rowB
      have HLo := Lib.hid (longest_any a m c (A : Int) x w1 hrow hmx hcap.1 hcm (HT.out.kept HK1.out) (by omega) (by omega))
      have hlv : longV x (A : Int) = longN x A := by rw [longV, if_neg (by omega)]; rfl
      rw [hlv] at HLo
      have HSame : Hid (∀ W d, Kept NoB w1 W → 1 ≤ d → d ≤ A → Calls Tryd.prog 12 #[.slice a m c, .int .i64 (A : Int), .int .i64 (d : Int)] W fun e w' => e = .returned (.int .i64 ((candN x A d : Nat) : Int)) ∧ Kept NoB W w') := Lib.hid (fun W d hk h1 h2 => same7_any a m c A d x W ((hrow.kept hk).room hk.size) hmx (by omega) hAm h1 h2)
      have HLong : Hid (∀ W D, Kept NoB w1 W → D ≤ A → Calls Tryd.prog 11 #[.slice a m c, .int .i64 (A : Int), .int .i64 (D : Int)] W fun e w' => e = .returned (.int .i64 ((topN (candN x A) D : Nat) : Int)) ∧ Kept NoB W w') := Lib.hid (fun W D hk h1 => long7_any a m c A D x W ((hrow.kept hk).room hk.size) hmx (by omega) hAm h1)
      have hsay := longest_says x A (by omega) (by omega)
      rw [← hmx] at hsay
      clear hS hmx hrow hcap hY hA hlv hz
      obtain ⟨n, hn⟩ : ∃ n, n = (longN x A).1 := ⟨_, rfl⟩
      obtain ⟨d, hd⟩ : ∃ d, d = (longN x A).2 := ⟨_, rfl⟩
      rw [← hn, ← hd] at hsay HLo
      clear hn hd
      go_wp2_with fail
      with_reducible refine HLo.out.mono ?_
      rintro e w2 ⟨rfl, hk2⟩
      have HK2 := Lib.hid hk2
      clear hk2 HLo
      rcases hsay with ⟨hn0, hd0, ht⟩ | ⟨h1, h2, h3, h4, h5, h6, h7, h8⟩
      · subst hn0 hd0
        have HLg := Lib.hid (HLong.out w2 A HK2.out (Nat.le_refl _))
        obtain ⟨t, ht2⟩ : ∃ t, t = topN (candN x A) A := ⟨_, rfl⟩
        rw [← ht2] at HLg ht
        have ht3 : (t : Int) < 3 := by omega
        clear ht2
        go_wp2_with fail
        with_reducible refine HLg.out.mono ?_
        rintro e w3 ⟨rfl, hk3⟩
        have HK3 := Lib.hid (HK2.out.trans hk3)
        have HA := Lib.hid (HAw.out w3 (HK1.out.trans HK3.out))
        clear hk3
        go_wp2_with fail
        with_reducible refine HA.out.mono ?_
        rintro e w4 ⟨rfl, hk4⟩
        have hb4 : Below w.heap.size w w4 := ((HK1.out.trans HK3.out).trans hk4).belowNo (Below.refl _ _)
        clear hk4
        go_wp2
        go_ret
        exact ⟨rfl, hb4⟩
      · have g1 : ((n : Int) == 0) = false := by simp; omega
        have k1 : ¬ (n : Int) < 3 := by omega
        have k2 : ¬ (258 : Int) < (n : Int) := by omega
        have k3 : ¬ (d : Int) < 1 := by omega
        have k4 : ¬ (A : Int) < (d : Int) := by omega
        have k5 : ¬ (m : Int) - (A : Int) < (n : Int) := by omega
        have HSm := Lib.hid (HSame.out w2 d HK2.out h4 h5)
        rw [h6] at HSm
        have HH := Lib.hid (And.intro h4 (And.intro h5 (And.intro h7 h8)))
        clear h1 h2 h3 h4 h5 h6 h7 h8
        go_wp2_with fail
        with_reducible refine HSm.out.mono ?_
        rintro e w3 ⟨rfl, hk3⟩
        have HK3 := Lib.hid (HK2.out.trans hk3)
        clear hk3
        have HLg := Lib.hid (HLong.out w3 (d - 1) HK3.out (by have := HH.out.2.1; omega))
        obtain ⟨d1, hd1⟩ : ∃ d1, d1 = d - 1 := ⟨_, rfl⟩
        have hd2 : (d : Int) - 1 = (d1 : Int) := by have := HH.out.1; omega
        rw [← hd1] at HLg
        obtain ⟨t, ht⟩ : ∃ t, t = topN (candN x A) d1 := ⟨_, rfl⟩
        rw [← ht] at HLg
        have htn : (t : Int) < (n : Int) := by have := HH.out.2.2.1; rw [← hd1, ← ht] at this; omega
        clear hd1 ht
        go_wp2_with fail
        with_reducible refine HLg.out.mono ?_
        rintro e w4 ⟨rfl, hk4⟩
        have HK4 := Lib.hid (HK3.out.trans hk4)
        clear hk4
        have HLg2 := Lib.hid (HLong.out w4 A HK4.out (Nat.le_refl _))
        rw [HH.out.2.2.2] at HLg2
        go_wp2_with fail
        with_reducible refine HLg2.out.mono ?_
        rintro e w5 ⟨rfl, hk5⟩
        have HK5 := Lib.hid (HK1.out.trans (HK4.out.trans hk5))
        have HA := Lib.hid (HAw.out w5 HK5.out)
        clear hk5
        go_wp2_with fail
        with_reducible refine HA.out.mono ?_
        rintro e w6 ⟨rfl, hk6⟩
        have hb6 : Below w.heap.size w w6 := (HK5.out.trans hk6).belowNo (Below.refl _ _)
        clear hk6
        go_wp2
        go_ret
        exact ⟨rfl, hb6⟩
theorem matchLongest_law (v0 v1 v2 : Value) (w : World) (r0 : Arg w 22 v0) (r1 : Arg w 29 v1) (r2 : Arg w 3 v2) (hT : DeB w) :
    Calls Tryd.prog 4 #[v0, v1, v2] w fun e w' => e = .returned (.bool true) ∧ Below w.heap.size w w' := by
  obtain ⟨bo, cb, bs, rfl, hc, hm, hr, hb, h0⟩ := r0.bytes Tryd.underlying22
  obtain ⟨lo, cl, zs, rfl, hlc, hlm, hrl, _, _⟩ := r1.ints
  obtain ⟨x, rfl, _⟩ := r2.int Tryd.underlying3
  exact matchLongest_walk bo bs.length cb (un bs) lo zs.length cl zs x w (by simp [un]) (by rw [nb_un hb]; exact hr) h0 hc hm hrl rfl hlc hlm hT
end Go.Proofs.YtifoldonmmobpaaDoor
