/-
  HuffTight: where the limit is just enough all codes are as long as it says; one less is refused.
-/
import Derived.Test.YtngllecfhkgckaaLawHuffCosts
import Derived.Test.YtngllecfhkgckaaPmE
namespace Go.Proofs.Ytngllecfhkgckaa
open Go.RowKit
set_option linter.unusedVariables false
set_option linter.unusedSimpArgs false

theorem range_take (f : Nat → Int) (P i : Nat) (h : i < P) : ((List.range P).map f).take (i + 1) = ((List.range P).map f).take i ++ [f i] := by
  rw [List.take_succ_eq_append_getElem (by simpa using h)]; simp
theorem LensP.reads2 {w w' : World} {zs : List Int} {e : Ending} {n : Nat} (h : LensP w zs e w') (hn : zs.length = n) : ∃ a c, e = .returned (.tuple #[.slice a n c, .int .i64 0]) ∧ RdI w' w'.heap.size a zs ∧ Kept NoB w w' := by
  obtain ⟨a, c, h1, h2, h3⟩ := h.reads
  exact ⟨a, c, by rw [h1, hn], h2, h3⟩

/-- The weights of the law. -/
def tightA (ws : List Int) (i : Nat) : Int := if i < ws.length then ws.getD i 0 % 1048576 % 1000000 + 1 else (i : Int) * (i : Int) + 1
theorem tightA_bd (ws : List Int) (i : Nat) (h : i < 256) : 1 ≤ tightA ws i ∧ tightA ws i ≤ 1000000 := by
  unfold tightA
  split
  · omega
  · have h1 : (i : Int) * (i : Int) ≤ 255 * 255 := Int.mul_le_mul (by omega) (by omega) (by omega) (by omega)
    have h2 : 0 ≤ (i : Int) * (i : Int) := Int.mul_nonneg (by omega) (by omega)
    omega

set_option maxRecDepth 20000 in
set_option maxHeartbeats 6000000 in
theorem huffTight_walk (k : Int) (ao : Option Addr) (ca : Nat) (ws : List Int) (w : World) (hx : RdI w w.heap.size ao ws) :
    Calls Try.prog 3 #[.int .i64 k, .slice ao ws.length ca] w fun e w' => e = .returned (.bool true) ∧ Below w.heap.size w w' := by
  have HX := Lib.hid hx; have HAw := Lib.hid awake_any
  have m1 := mask7
  have m2 := mask1048575
  obtain ⟨i0, hi, hz0, hz1, hz2⟩ := info_parts infoI
  obtain ⟨n, hn⟩ : ∃ n, n = ws.length := ⟨_, rfl⟩
  have HN := Lib.hid hn
  rw [← hn]
  obtain ⟨K, hK⟩ : ∃ K : Nat, k % 8 + 1 = (K : Int) := ⟨(k % 8 + 1).toNat, by omega⟩
  have hK8 : 1 ≤ K ∧ K ≤ 8 := by omega
  have e0 : IntKind.i64.wrap (k % 8 + 1) = (K : Int) := by rw [IntWalk.i64_in _ (by omega)]; exact hK
  obtain ⟨P, hP⟩ : ∃ P, P = 2 ^ K := ⟨_, rfl⟩
  have hP1 : 2 ≤ P := by rw [hP]; exact pow_two_ge K hK8.1
  have hP2 : P ≤ 256 := by
    rw [hP]
    have := Nat.pow_le_pow_right (n := 2) (by decide) hK8.2
    simpa using this
  have e1 : wrap64 ((2 : Int) ^ K) = (P : Int) := by rw [hP]; exact wrap_pow15 K (by omega)
  obtain ⟨A, hA⟩ : ∃ A, A = (List.range P).map (tightA ws) := ⟨_, rfl⟩
  have hAl : A.length = P := by rw [hA]; simp
  have hAb : ∀ z ∈ A, 1 ≤ z ∧ z ≤ 1000000 := by
    intro z hz
    rw [hA] at hz
    obtain ⟨i, hi, e⟩ := List.mem_map.1 hz
    rw [← e]
    exact tightA_bd ws i (Nat.lt_of_lt_of_le (List.mem_range.1 hi) hP2)
  have HP := Lib.hid hP; have HA := Lib.hid hA; have HAl := Lib.hid hAl; have HAb := Lib.hid hAb
  clear hx hn hK hP hA hAl hAb
  go_enter Try.func3, Try.ntmps3
  go_wp2
  go_loopw [6, 5, 7] (fun v6 v5 _v7 wr => ∃ (i : Nat) (a5 : Option Addr) (c5 : Nat), v6 = .int .i64 (i : Int) ∧ v5 = .slice a5 i c5 ∧ i ≤ P ∧ Hid (IntSt w wr a5 i c5 (A.take i))) (fun v6 _ _ _ => P - (intOf v6).toNat)
  case atStart => exact ⟨0, none, 0, rfl, rfl, by omega, Lib.hid (IntSt.nil w)⟩
  case round =>
    clear e0
    obtain ⟨i, a5, c5, rfl, rfl, hiP, HS⟩ := hrel
    by_cases hlt : (i : Int) < P
    · have hst := range_take (tightA ws) P i (by omega)
      rw [← HA.out] at hst
      unfold tightA at hst
      by_cases hin : (i : Int) < n
      · obtain ⟨g, off, rfl, _, hc0⟩ := HX.out i (by have := HN.out; omega)
        have hc := HS.out.kept.cell hc0
        rw [if_pos (by have := HN.out; omega)] at hst
        obtain ⟨z, hz⟩ : ∃ z, z = ws.getD i 0 := ⟨_, rfl⟩
        rw [← hz] at hc hst
        have HSt := Lib.hid hst
        clear hc0 hz hst
        have hrow := HS.out.own
        obtain ⟨cs, hcs⟩ : ∃ cs, cs = (A.take i).map (Value.int .i64) := ⟨_, rfl⟩
        rw [← hcs] at hrow
        have HRow := Lib.hid (hrow.alloc (.cells #[.int .i64 (z % 1048576 % 1000000 + 1)] 3)); have HCs := Lib.hid hcs
        clear hrow hcs
        go_wp2_with (at_builtin; refine wpList_app _ rfl _ _ 22 rfl 3 i0 (.int .i64 0) 1 8 Try.underlying22 hi hz0 hz1 hz2 rfl (by decide) _ i cs rfl HRow.out ⟨wr.heap.size, 0, none⟩ 1 1 [.int .i64 (z % 1048576 % 1000000 + 1)] rfl rfl (cell_one_new _ _ _) ?d2 ?d3 ?d4 ?_)
        case d2 => first | rfl | (intro u hu; simp at hu; subst hu; rfl)
        case d3 => unfold maxLen; omega
        case d4 => omega
        intro v' w2 hown' hgrow hnew
        obtain ⟨a2, c2, rfl⟩ := own_shape2 hown'
        rw [HCs.out] at hown'
        have hs2 := HS.out.app hown' hgrow hnew
        rw [← HSt.out] at hs2
        have HS2 := Lib.hid hs2
        clear hown' hgrow hnew hs2
        go_wp2
        go_roundw
        case rel => exact ⟨i + 1, a2, c2, by go_num, rfl, by omega, HS2⟩
        case measure => simp [intOf]; omega
      · rw [if_neg (by have := HN.out; omega)] at hst
        have hq1 : (i : Int) * (i : Int) ≤ 255 * 255 := Int.mul_le_mul (by omega) (by omega) (by omega) (by omega)
        have hq2 : 0 ≤ (i : Int) * (i : Int) := Int.mul_nonneg (by omega) (by omega)
        obtain ⟨q, hq⟩ : ∃ q : Int, q = (i : Int) * (i : Int) := ⟨_, rfl⟩
        rw [← hq] at hq1 hq2 hst
        have e2 : wrap64 ((i : Int) * (i : Int)) = q := by rw [← hq]; exact IntWalk.wrap64_in _ (by omega)
        have e3 : wrap64 (q + 1) = q + 1 := IntWalk.wrap64_in _ (by omega)
        have HSt := Lib.hid hst
        clear hst hq
        have hrow := HS.out.own
        obtain ⟨cs, hcs⟩ : ∃ cs, cs = (A.take i).map (Value.int .i64) := ⟨_, rfl⟩
        rw [← hcs] at hrow
        have HRow := Lib.hid (hrow.alloc (.cells #[.int .i64 (q + 1)] 3)); have HCs := Lib.hid hcs
        clear hrow hcs
        go_wp2_with (at_builtin; refine wpList_app _ rfl _ _ 22 rfl 3 i0 (.int .i64 0) 1 8 Try.underlying22 hi hz0 hz1 hz2 rfl (by decide) _ i cs rfl HRow.out ⟨wr.heap.size, 0, none⟩ 1 1 [.int .i64 (q + 1)] rfl rfl (cell_one_new _ _ _) ?d2 ?d3 ?d4 ?_)
        case d2 => first | rfl | (intro u hu; simp at hu; subst hu; rfl)
        case d3 => unfold maxLen; omega
        case d4 => omega
        intro v' w2 hown' hgrow hnew
        obtain ⟨a2, c2, rfl⟩ := own_shape2 hown'
        rw [HCs.out] at hown'
        have hs2 := HS.out.app hown' hgrow hnew
        rw [← HSt.out] at hs2
        have HS2 := Lib.hid hs2
        clear hown' hgrow hnew hs2
        go_wp2
        go_roundw
        case rel => exact ⟨i + 1, a2, c2, by go_num, rfl, by omega, HS2⟩
        case measure => simp [intOf]; omega
    · have hiP2 : i = P := by omega
      subst hiP2
      have hsa := HS.out
      rw [List.take_of_length_le (by rw [HAl.out]; exact Nat.le_refl _)] at hsa
      have hAb2 : Small 1000000 A := fun z hz => by have := HAb.out z hz; omega
      have hfew : (leavesL 0 A).length = i := by rw [(leaves_all A 0 (fun z hz => by have := HAb.out z hz; omega)).1, HAl.out]
      have hl1 : ∀ W, Kept NoB wr W → Calls Try.prog 8 #[.slice a5 i c5, .int .i64 (K : Int)] W fun e w' => ∃ a c Z, (∀ p, p < i → Z.getD p 0 = (K : Int)) ∧ Z.length = i ∧ e = .returned (.tuple #[.slice a i c, .int .i64 0]) ∧ RdI w' w'.heap.size a Z ∧ Kept NoB W w' := by
        intro W hk
        have hok : LensOkP A (K : Int) := ⟨by rw [HAl.out]; omega, by omega, hAb2, by rw [hfew, Int.toNat_natCast, ← HP.out]; exact Nat.le_refl _⟩
        have hcall := lens_yes a5 c5 _ A (K : Int) W (hsa.reads.keptNo hk) hok
        rw [HAl.out] at hcall
        refine hcall.mono ?_
        rintro e w' ⟨lv, hs, hL⟩
        have hF := lensF A (K : Int) lv hok hs
        rw [HAl.out] at hF
        obtain ⟨a, c, h1, h2, h3⟩ := hL.reads2 (n := i) (by rw [hF.len, HAl.out])
        rw [Int.toNat_natCast] at hF h2
        exact ⟨a, c, _, fun p hp => tight_all K hK8 (by rw [HAl.out, HP.out]) (fun z hz => by have := HAb.out z hz; omega) hs hF p (by rw [HAl.out]; exact hp), by rw [hF.len, HAl.out], h1, h2, h3⟩
      have hl2 : ∀ W (L : Nat), L + 1 = K → Kept NoB wr W → Calls Try.prog 8 #[.slice a5 i c5, .int .i64 (L : Int)] W fun e w' => e = .returned (.tuple #[.slice none 0 0, .int .i64 1]) ∧ Kept NoB W w' := by
        intro W L hL hk
        have := lens_no a5 c5 _ A (L : Int) W (hsa.reads.keptNo hk) (fun hok => by
          have h1 := hok.few
          rw [hfew, HP.out, ← hL, Int.toNat_natCast, Nat.pow_succ] at h1
          have := Nat.two_pow_pos L
          omega)
        rw [HAl.out] at this
        exact this
      have HL1 := Lib.hid hl1; have HL2 := Lib.hid hl2; have HSk := Lib.hid hsa.kept
      clear hsa hAb2 hfew hl1 hl2 HS
      go_wp2_with fail
      refine (HL1.out _ (Kept.refl _ _)).mono ?_
      rintro e w2 ⟨a8, c8, Z, hZ, hZl, rfl, hr, hk⟩
      have HZ := Lib.hid hZ; have HZl := Lib.hid hZl; have HR8 := Lib.hid hr; have HK2 := Lib.hid hk
      clear hZ hZl hr hk HL1
      go_wp2
      go_loopw [10] (fun v10 w3 => ∃ j : Nat, v10 = .int .i64 (j : Int) ∧ j ≤ i ∧ w2 = w3) (fun v10 _ => i - (intOf v10).toNat)
      case atStart => exact ⟨0, rfl, by omega, rfl⟩
      case round =>
        obtain ⟨j, rfl, hji, rfl⟩ := hrel
        by_cases hlt3 : (j : Int) < i
        · obtain ⟨g, off, rfl, _, hc⟩ := HR8.out j (by rw [HZl.out]; omega)
          rw [HZ.out j (by omega)] at hc
          go_wp2
          go_roundw
          case rel => exact ⟨j + 1, by go_num, by omega, by first | trivial | rfl⟩
          case measure => simp [intOf]; omega
        · by_cases hK1 : K = 1
          · have g1 : ((K : Int) == 1) = true := by simp; omega
            go_wp2_with fail
            refine (HAw.out _).mono ?_
            rintro e w4 ⟨rfl, hk⟩
            have HKz := Lib.hid (HSk.out.trans (HK2.out.trans hk))
            clear hk
            go_wp2
            go_ret
            exact ⟨rfl, HKz.out.belowNo (Below.refl _ _)⟩
          · have g1 : ((K : Int) == 1) = false := by simp; omega
            obtain ⟨L, hL⟩ : ∃ L, L + 1 = K := ⟨K - 1, by omega⟩
            have g2 := i64_pred K L hL (by omega)
            have HLl := Lib.hid hL
            clear hL
            go_wp2_with fail
            refine (HL2.out _ L HLl.out HK2.out).mono ?_
            rintro e w4 ⟨rfl, hk⟩
            have HK4 := Lib.hid (HK2.out.trans hk)
            clear hk
            go_wp2_with fail
            refine (HAw.out _).mono ?_
            rintro e w5 ⟨rfl, hk⟩
            have HKz := Lib.hid (HSk.out.trans (HK4.out.trans hk))
            clear hk
            go_wp2
            go_ret
            exact ⟨rfl, HKz.out.belowNo (Below.refl _ _)⟩

theorem huffTight_law (v0 v1 : Value) (w : World) (r0 : Arg w 3 v0) (r1 : Arg w 22 v1) : Calls Try.prog 3 #[v0, v1] w fun e w' => e = .returned (.bool true) ∧ Below w.heap.size w w' := by
  obtain ⟨k, rfl, _⟩ := r0.int rfl
  obtain ⟨ao, ca, ws, rfl, _, _, hx, _, _⟩ := r1.ints
  exact huffTight_walk k ao ca ws w hx
end Go.Proofs.Ytngllecfhkgckaa
