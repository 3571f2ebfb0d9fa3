/-
  BitsPeek: what is looked at is what is taken next.
-/
import Derived.Test.YtffoigacpnlkgaaAwake1
import Derived.Test.YtffoigacpnlkgaaMask
import Derived.Test.YtffoigacpnlkgaaRd
namespace Go.Proofs.Ytffoigacpnlkgaa
open Go.RowKit
set_option linter.unusedVariables false

set_option maxHeartbeats 1600000 in
theorem bitsPeek_walk (ao : Option Addr) (cap len : Nat) (bs : List Int) (a n : Int) (w : World) (hlen : bs.length = len) (hr : Reads w ao bs) (hb : AllB bs) (ha : -9223372036854775808 ≤ a ∧ a ≤ 9223372036854775807) (hn : -9223372036854775808 ≤ n ∧ n ≤ 9223372036854775807) (hm : len ≤ maxLen) :
    Calls Try.prog 3 #[.slice ao len cap, .int .i64 a, .int .i64 n] w fun e w' => e = .returned (.bool true) ∧ Below w.heap.size w w' := by
  unfold maxLen at hm
  by_cases h100 : 100 < len
  · clear hr hlen
    go_enter Try.func3, Try.ntmps3
    go_wp2_with fail
    refine (awake1 _).mono ?_
    rintro e w1 ⟨rfl, hb1⟩
    go_wp2
    go_ret
    exact ⟨rfl, hb1⟩
  · have HLen := Lib.hid hlen; clear hlen
    have HR := Lib.hid hr; clear hr
    have HB := Lib.hid hb; clear hb
    obtain ⟨A, hA⟩ : ∃ A : Nat, (A : Int) = a % 64 := ⟨(a % 64).toNat, by omega⟩
    have hA64 : A < 64 := by omega
    have hAm : bits .and .i64 a 63 = A := by rw [mask63]; omega
    obtain ⟨N, hN⟩ : ∃ N : Nat, (N : Int) = n % 256 % 33 := ⟨(n % 256 % 33).toNat, by omega⟩
    have hN33 : N < 33 := by omega
    have hNm : bits .and .i64 n 255 = n % 256 := mask255 n
    have HA := Lib.hid hA; clear hA
    have HN := Lib.hid hN; clear hN
    go_enter Try.func3, Try.ntmps3
    go_wp2_with fail
    refine (newr_n _ _ _ bs _ HLen.out HR.out (by have := HLen.out; omega) HB.out).mono ?_
    rintro e w1 ⟨R, ao', cap', rfl, hR, hRf, hRo, hk1⟩
    have hB1 : Below w.heap.size w w1 := hk1.belowNo (Below.refl _ _)
    have HB1 := Lib.hid hB1; have HR1 := Lib.hid hR
    clear hB1 hR hRo hk1
    go_wp2
    go_loopw [8] (fun i wr => ∃ k p : Nat, k ≤ A ∧ i = .int .i64 k ∧ Rdr wr R ao' cap' bs p ∧ Below w.heap.size w wr) (fun i _ => A - (intOf i).toNat)
    case atStart => exact ⟨0, 0, by omega, rfl, HR1.out, HB1.out⟩
    case round =>
      obtain ⟨k, p, hk, rfl, hRk, hBk⟩ := hrel
      have HRk := Lib.hid hRk; clear hRk
      have HBk := Lib.hid hBk; clear hBk
      by_cases hlt : k < A
      · by_cases hp : p + 1 ≤ 8 * bs.length
        · go_wp2_with (go_at_call 17; refine (take_yes _ _ _ _ _ _ 1 HRk.out (by decide) hp).mono ?_; rintro e w2 ⟨rfl, hR2, hk2⟩)
          go_roundw
          case rel => exact ⟨k + 1, p + 1, by omega, by go_num, hR2, hk2.below HBk.out (by intro k hk; simp [OneB] at hk; omega)⟩
          case measure => simp [intOf]; omega
        · go_wp2_with (go_at_call 17; refine (take_no _ _ _ _ _ _ 1 HRk.out (by right; right; omega)).mono ?_; rintro e w2 ⟨rfl, hk2⟩)
          go_roundw
          case rel => exact ⟨k + 1, p, by omega, by go_num, HRk.out.keptNo hk2, hk2.belowNo HBk.out⟩
          case measure => simp [intOf]; omega
      · have hp := HRk.out.2.2.2.1
        have hl100 := HLen.out
        obtain ⟨K, hK⟩ : ∃ K : Nat, K = min N (8 * bs.length - p) := ⟨_, rfl⟩
        have hKm : min3 (n % 256 % 33) (8 * bs.length - p) = K := by have := HN.out; unfold min3; omega
        have hK32 : K ≤ 32 ∧ p + K ≤ 8 * bs.length := by omega
        have HKm := Lib.hid hKm; clear hKm
        have HK := Lib.hid hK; clear hK
        clear hl100
        go_wp2_with fail
        refine (left_any _ _ _ _ _ _ HRk.out).mono ?_
        rintro e w2 ⟨rfl, hk2⟩
        have HR2 := Lib.hid (HRk.out.keptNo hk2)
        have HB2 := Lib.hid (hk2.belowNo HBk.out)
        clear hk2
        go_wp2_with fail
        refine (peek_any _ _ _ _ _ _ _ HR2.out K HKm.out).mono ?_
        rintro e w3 ⟨rfl, hk3⟩
        have HR3 := Lib.hid (HR2.out.keptNo hk3)
        have HB3 := Lib.hid (hk3.belowNo HB2.out)
        clear hk3
        go_wp2_with fail
        refine (peek_any _ _ _ _ _ _ _ HR3.out K HKm.out).mono ?_
        rintro e w4 ⟨rfl, hk4⟩
        have HR4 := Lib.hid (HR3.out.keptNo hk4)
        have HB4 := Lib.hid (hk4.belowNo HB3.out)
        clear hk4
        have hsh : ((bitsAt bs p K : Nat) : Int) / 2 ^ K = 0 := by
          have h1 : ((bitsAt bs p K : Nat) : Int) / 2 ^ K = ((bitsAt bs p K / 2 ^ K : Nat) : Int) := by push_cast; rfl
          rw [h1, Nat.div_eq_of_lt (bitsAt_lt bs p K)]; rfl
        have hcase : ((8 * (bs.length : Int) - p < n % 256 % 33) ∧ ((K : Int) != 8 * bs.length - p) = false ∧ (K : Int) < 32) ∨ (¬ (8 * (bs.length : Int) - p < n % 256 % 33) ∧ ((K : Int) != n % 256 % 33) = false ∧ (K : Int) < 32) ∨
            (¬ (8 * (bs.length : Int) - p < n % 256 % 33) ∧ ((K : Int) != n % 256 % 33) = false ∧ ¬ (K : Int) < 32) := by
          have := HK.out; have := HN.out
          by_cases hc : 8 * (bs.length : Int) - p < n % 256 % 33
          · exact .inl ⟨hc, by simp; omega, by omega⟩
          · by_cases h32 : (K : Int) < 32
            · exact .inr (.inl ⟨hc, by simp; omega, h32⟩)
            · exact .inr (.inr ⟨hc, by simp; omega, h32⟩)
        rcases hcase with ⟨hc1, hc2, h32⟩ | ⟨hc1, hc2, h32⟩ | ⟨hc1, hc2, h32⟩
        all_goals
          go_wp2_with fail
          refine (left_any _ _ _ _ _ _ HR4.out).mono ?_
          rintro e w5 ⟨rfl, hk5⟩
          have HR5 := Lib.hid (HR4.out.keptNo hk5)
          have HB5 := Lib.hid (hk5.belowNo HB4.out)
          clear hk5
          go_wp2_with fail
          (with_reducible refine (take_yes _ _ _ _ _ _ K HR5.out hK32.1 hK32.2).mono ?_)
          rintro e w6 ⟨rfl, hR6, hk6⟩
          have HR6 := Lib.hid hR6
          have HB6 := Lib.hid (hk6.below HB5.out (by intro k hk; simp [OneB] at hk; omega))
          clear hR6 hk6
          go_wp2_with fail
          refine (left_any _ _ _ _ _ _ HR6.out).mono ?_
          rintro e w7 ⟨rfl, hk7⟩
          have HB7 := Lib.hid (hk7.belowNo HB6.out)
          clear hk7
          have hlb : bs.length ≤ 100 := by have := HLen.out; omega
          have hle : (8 * (bs.length : Int) - ((p : Int) + K) == 8 * (bs.length : Int) - p - K) = true := by simp; omega
          go_wp2_with fail
          refine (awake1 _).mono ?_
          rintro e w8 ⟨rfl, hb8⟩
          have hb9 := (HB7.out).trans (hb8.mono HB7.out.size)
          go_wp2
          go_ret
          exact ⟨rfl, hb9⟩

theorem bitsPeek_law (v0 v1 v2 : Value) (w : World) (r0 : Arg w 22 v0) (r1 : Arg w 3 v1) (r2 : Arg w 3 v2) :
    Calls Try.prog 3 #[v0, v1, v2] w fun e w' => e = .returned (.bool true) ∧ Below w.heap.size w w' := by
  obtain ⟨ao, cap, bs, rfl, hc, hm, hr, hb, _⟩ := r0.bytes Try.underlying22
  obtain ⟨a, rfl, ha⟩ := r1.int Try.underlying3
  obtain ⟨n, rfl, hn⟩ := r2.int Try.underlying3
  exact bitsPeek_walk ao cap bs.length bs a n w rfl hr hb (i64_bd ha) (i64_bd hn) (Nat.le_trans hc hm)
end Go.Proofs.Ytffoigacpnlkgaa
