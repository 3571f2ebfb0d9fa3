/-
  BitsBack: what was put is taken, in the same parts.
-/
import Derived.Test.YtffoigacpnlkgaaOps
namespace Go.Proofs.Ytffoigacpnlkgaa
open Go.RowKit
set_option linter.unusedVariables false

def BackR (w : World) (W : Nat) (n x : Nat → Nat) (k : Nat) (wr : World) : Prop :=
  ∃ ao cap bs, Wtr wr W ao cap bs (posOf n k) ∧ num bs = allOf n x k ∧ Below w.heap.size w wr ∧ (∀ b, (Value.slice ao bs.length cap).ownBlock = some b → w.heap.size ≤ b)

set_option maxHeartbeats 4000000 in
theorem bitsBack_walk (ao : Option Addr) (cap len : Nat) (kd nn vv : Nat → Int) (w : World) (hm : len ≤ maxLen) (hops : OpsAt w ao len kd nn vv) (hao : 0 < len → ∃ b off, ao = some ⟨b, off, none⟩ ∧ b < w.heap.size)
    (hbd : ∀ i, (-9223372036854775808 ≤ kd i ∧ kd i ≤ 9223372036854775807) ∧ (-9223372036854775808 ≤ nn i ∧ nn i ≤ 9223372036854775807) ∧ 0 ≤ vv i ∧ vv i < 4294967296) :
    Calls Try.prog 7 #[.slice ao len cap] w fun e w' => e = .returned (.bool true) ∧ Below w.heap.size w w' := by
  unfold maxLen at hm
  obtain ⟨K, hK⟩ : ∃ K, K = min len 60 := ⟨_, rfl⟩
  have hK60 : K ≤ 60 := by omega
  obtain ⟨n, hn⟩ : ∃ n : Nat → Nat, ∀ i, n i = (nn i % 256 % 33).toNat := ⟨_, fun _ => rfl⟩
  obtain ⟨x, hx⟩ : ∃ x : Nat → Nat, ∀ i, x i = (vv i).toNat := ⟨_, fun _ => rfl⟩
  have hn32 : ∀ i, n i ≤ 32 := fun i => by rw [hn]; omega
  have HN := Lib.hid hn; have HX := Lib.hid hx; have HN32 := Lib.hid hn32; have HK := Lib.hid hK; have HOps := Lib.hid hops; have HAo := Lib.hid hao; have HBd := Lib.hid hbd
  have hP : ∀ i, i ≤ 60 → posOf n i ≤ 1920 := fun i hi => by have := posOf_bd n hn32 i; omega
  have HP := Lib.hid hP
  clear hn hx hn32 hK hops hao hbd hP
  go_enter Try.func7, Try.ntmps7
  go_wp2_with fail
  refine (neww_any _).mono ?_
  rintro e w1 ⟨W, rfl, hW, hWf, hk1⟩
  have HW1 := Lib.hid hW
  have HB1 := Lib.hid (hk1.belowNo (Below.refl _ _))
  have HWf := Lib.hid hWf
  clear hW hk1 hWf
  go_wp2
  go_loopw [4] (fun i wr => ∃ k : Nat, k ≤ K ∧ i = .int .i64 k ∧ BackR w W n x k wr) (fun i _ => K - (intOf i).toNat)
  case atStart => exact ⟨0, by omega, rfl, none, 0, [], HW1.out, rfl, HB1.out, by intro b hb; simp [Value.ownBlock] at hb⟩
  case round =>
    obtain ⟨k, hk, rfl, hR⟩ := hrel
    have HR := Lib.hid hR; clear hR
    by_cases hlt : k < K
    · have h1 : (k : Int) < len := by have := HK.out; omega
      have h2 : (k : Int) < 60 := by omega
      obtain ⟨b, off, hao, hbl⟩ := HAo.out (by omega)
      obtain ⟨ao', cap', bs', hW, hN, hB, hO⟩ := HR.out
      obtain ⟨c0, c1, c2⟩ := (HOps.out.below hB).2 b off hao k (by omega)
      have hbk := HBd.out k
      have hao2 := hao
      subst hao2
      clear hao
      have hmask : bits .and .i64 (nn k) 255 = nn k % 256 := mask255 _
      have e1 : nn k % 256 % 33 = ((n k : Nat) : Int) := by have := HN.out k; omega
      have e2 : vv k = ((x k : Nat) : Int) := by have := HX.out k; omega
      have hxk : x k < 4294967296 := by omega
      have E1 := Lib.hid e1; clear e1
      rw [e2] at c2
      have HWk := Lib.hid hW; have HNk := Lib.hid hN; have HBk := Lib.hid hB; have HOk := Lib.hid hO
      clear hW hN hB hO e2 hbk
      go_wp2_with fail
      rw [E1.out]
      refine (put_any _ _ _ _ _ _ (x k) (n k) HWk.out hxk (HN32.out k) (by have := HP.out k (by omega); omega)).mono ?_
      rintro e w2 ⟨ao2, cap2, bs2, rfl, hW2, hN2, hk2, ho2⟩
      have F : BackR w W n x (k + 1) w2 := by
        refine ⟨ao2, cap2, bs2, hW2, by rw [hN2, HNk.out]; rfl, hk2.below HBk.out ?_, ?_⟩
        · intro b' hb'
          rcases hb' with e | e
          · have := HWf.out; simp [OneB] at e; omega
          · exact HOk.out b' e
        · intro b' hb'
          rcases ho2 b' hb' with e | e
          · exact HOk.out b' e
          · have := HBk.out.size; omega
      have HF := Lib.hid F
      clear F hW2 hN2 hk2 ho2
      go_wp2
      go_roundw
      case rel => exact ⟨k + 1, by omega, by go_num, HF.out⟩
      case measure => simp [intOf]; omega
    · have hend : ¬ ((k : Int) < len) ∨ ((k : Int) < len ∧ ¬ (k : Int) < 60) := by have := HK.out; omega
      have hkK : k = K := by omega
      have HkK := Lib.hid hkK; clear hkK
      rcases hend with h1 | ⟨h1, h2⟩
      all_goals
        obtain ⟨ao', cap', bs', hW, hN, hB, hO⟩ := HR.out
        rw [HkK.out] at hW hN
        have hpk := HP.out K hK60
        have hlen := hW.2.2.2.1
        have hAB := hW.2.2.1
        have HWk := Lib.hid hW; have HNk := Lib.hid hN; have HBk := Lib.hid hB; have HLen := Lib.hid hlen; have HAB := Lib.hid hAB
        have hlb : bs'.length ≤ 241 := by omega
        clear hW hN hB hO hlen hAB
        go_wp2_with fail
        refine (wbytes_any _ _ _ _ _ _ HWk.out).mono ?_
        rintro e w2 ⟨ao2, cap2, rfl, ho2, hf2, hn2, hk2⟩
        have HRd := Lib.hid (own_reads ho2 rfl)
        have HB2 := Lib.hid (hk2.belowNo HBk.out)
        clear ho2 hf2 hn2 hk2
        go_wp2_with fail
        refine (newr_any _ _ _ _ HRd.out (by omega) HAB.out).mono ?_
        rintro e w3 ⟨R, ao3, cap3, rfl, hR3, hRf, hRo, hk3⟩
        have HR3 := Lib.hid hR3
        have HRf : Hid (w.heap.size ≤ R) := by have := HB2.out.size; show w.heap.size ≤ R; omega
        have HB3 := Lib.hid (hk3.belowNo HB2.out)
        clear hR3 hRf hRo hk3
        go_wp2
        go_loopw [7] (fun i wr => ∃ j : Nat, j ≤ K ∧ i = .int .i64 j ∧ Rdr wr R ao3 cap3 bs' (posOf n j) ∧ Below w.heap.size w wr) (fun i _ => K - (intOf i).toNat)
        case atStart => exact ⟨0, by omega, rfl, HR3.out, HB3.out⟩
        case round =>
          obtain ⟨j, hj, rfl, hRj, hBj⟩ := hrel
          have HRj := Lib.hid hRj; have HBj := Lib.hid hBj; clear hRj hBj
          by_cases hlt2 : j < K
          · have g1 : (j : Int) < len := by have := HK.out; omega
            have g2 : (j : Int) < 60 := by omega
            obtain ⟨b, off, hao, hbl⟩ := HAo.out (by omega)
            obtain ⟨c0, c1, c2⟩ := (HOps.out.below HBj.out).2 b off hao j (by omega)
            have hbk := HBd.out j
            subst hao
            have hmask : bits .and .i64 (nn j) 255 = nn j % 256 := mask255 _
            have e1 : nn j % 256 % 33 = ((n j : Nat) : Int) := by have := HN.out j; omega
            have e2 : vv j = ((x j : Nat) : Int) := by have := HX.out j; omega
            have hxj : x j < 4294967296 := by omega
            have E1 := Lib.hid e1; clear e1
            rw [e2] at c2
            clear e2 hbk
            have hnext : posOf n j + n j ≤ 8 * bs'.length := by
              have h1 := posOf_le n (j + 1) K (by omega)
              have := HLen.out
              simp only [posOf] at h1
              omega
            have hval : bitsAt bs' (posOf n j) (n j) = x j % 2 ^ n j := by
              unfold bitsAt
              rw [HNk.out, allOf_take n x j K hlt2]
            have HVal := Lib.hid hval; clear hval
            go_wp2_with fail
            rw [E1.out]
            refine (take_yes _ _ _ _ _ _ (n j) HRj.out (HN32.out j) hnext).mono ?_
            rintro e w4 ⟨rfl, hR4, hk4⟩
            have HR4 := Lib.hid hR4
            have HB4 := Lib.hid (hk4.below HBj.out (by intro k hk; have := HRf.out; simp [OneB] at hk; omega))
            obtain ⟨d0, d1, d2⟩ := (HOps.out.below HB4.out).2 b off rfl j (by omega)
            have e2 : vv j = ((x j : Nat) : Int) := by have := HX.out j; have := HBd.out j; omega
            rw [e2] at d2
            clear hR4 hk4 d0 d1 c0 c1 c2 e2
            generalize hy : bitsAt bs' (posOf n j) (n j) = y at HVal ⊢
            clear hy
            have hy32 : y < 4294967296 := by have := HVal.out; have h1 : x j % 2 ^ n j ≤ x j := Nat.mod_le _ _; omega
            have hn32j := HN32.out j
            obtain ⟨nj, hnj⟩ : ∃ nj, nj = n j := ⟨_, rfl⟩
            have HNj := Lib.hid hnj
            rw [← hnj] at HVal hn32j ⊢
            clear hnj
            have q1 := wrap_pow nj hn32j
            have hwant : bits .and .u64 ((x j : Nat) : Int) (IntKind.u64.wrap (2 ^ nj - 1)) = ((y : Nat) : Int) := by
              have h1 := low_eq (x j) nj hxj hn32j
              rw [q1] at h1
              rw [h1, HVal.out]
            have hrr : revN nj (revN nj y) = y := revN_revN nj y (by rw [HVal.out]; exact Nat.mod_lt _ (Nat.pow_pos (by decide)))
            have HRR := Lib.hid hrr; clear hrr
            have HRl : Hid (revN nj y < 4294967296) := Nat.lt_of_lt_of_le (revN_lt nj y) (show 2 ^ nj ≤ 2 ^ 32 from pow_le_pow2 hn32j)
            go_wp2_with fail
            go_quiet (fail)
            clear hwant q1
            have HR5 : Hid (Rdr (w4.drewN nq) R ao3 cap3 bs' (posOf n j + n j)) := HR4.out
            have HB5 : Hid (Below w.heap.size w (w4.drewN nq)) := (Kept.drewN (Kept.refl NoB w4) nq).belowNo HB4.out
            generalize w4.drewN nq = w5 at HR5 HB5 ⊢
            go_wp2_with fail
            refine (rev_all y nj _ hy32 hn32j).mono ?_
            rintro e w6 ⟨rfl, rfl⟩
            go_wp2_with fail
            refine (rev_all (revN nj y) nj _ HRl.out hn32j).mono ?_
            rintro e w6 ⟨rfl, rfl⟩
            rw [HRR.out]
            go_wp2
            go_roundw
            case rel => exact ⟨j + 1, by omega, by go_num, HR5.out, HB5.out⟩
            case measure => simp [intOf]; omega
          · have g0 : ¬ ((j : Int) < len) ∨ ((j : Int) < len ∧ ¬ (j : Int) < 60) := by have := HK.out; omega
            have hjK : j = K := by omega
            have hl8 : 8 * (bs'.length : Int) - (posOf n j : Nat) < 8 := by have := HLen.out; rw [hjK]; omega
            clear hjK
            rcases g0 with g1 | ⟨g1, g2⟩
            all_goals
              go_wp2_with fail
              refine (left_any _ _ _ _ _ _ HRj.out).mono ?_
              rintro e w4 ⟨rfl, hk4⟩
              have HB4 := Lib.hid (hk4.belowNo HBj.out)
              clear hk4
              go_wp2_with fail
              refine (awake1 _).mono ?_
              rintro e w5 ⟨rfl, hb5⟩
              have hb6 := (HB4.out).trans (hb5.mono HB4.out.size)
              go_wp2
              go_ret
              exact ⟨rfl, hb6⟩

theorem bitsBack_law (v0 : Value) (w : World) (r0 : Arg w 39 v0) : Calls Try.prog 7 #[v0] w fun e w' => e = .returned (.bool true) ∧ Below w.heap.size w w' := by
  obtain ⟨ao, len, cap, kd, nn, vv, rfl, hm, ho, ha, hb⟩ := ops_open r0
  exact bitsBack_walk ao cap len kd nn vv w hm ho ha hb
end Go.Proofs.Ytffoigacpnlkgaa
