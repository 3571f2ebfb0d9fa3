/-
  match: TrailingZeros64 by its table; shared.
-/
import Derived.Test.YtifoldonmmobpaaDoorMatA
import Derived.Deep.CutBlock
namespace Go.Proofs.YtifoldonmmobpaaDoor
open Go.RowKit
set_option linter.unusedVariables false
set_option linter.unusedSimpArgs false

/-- The table lies as its initialiser laid it. -/
def DeB (w : World) : Prop := ∀ j, j < 64 → w.cell? ⟨0, j, none⟩ = some (.int .u8 ((Lib.deBruijn64tab.getD j 0 : Nat) : Int))
theorem DeB.kept {w w' : World} (h : DeB w) (hk : Kept NoB w w') : DeB w' := fun j hj => hk.cell (h j hj)
set_option maxRecDepth 100000 in
set_option maxHeartbeats 2000000 in
theorem tz_core (x k idx : Nat) (w : World) (hx0 : ((x : Int) == 0) = false)
    (key : IntKind.u64.wrap (bits BinOp.and IntKind.u64 (x : Int) (IntKind.u64.wrap (-(x : Int))) * 285870213051353865) / 288230376151711744 = (idx : Int))
    (hi : idx < 64) (hk : k < 64) (hcell : w.cell? ⟨0, idx, none⟩ = some (.int .u8 k)) :
    Calls Tryd.prog 35 #[.int .u64 x] w fun e w' => e = .returned (.int .i64 k) ∧ w' = w := by
  go_enter Tryd.func35, Tryd.ntmps35
  go_wp2_with (simp only [key])
  go_ret
  exact ⟨rfl, rfl⟩
theorem tz_key (x a : Nat) (hx : x < 18446744073709551616) (hx0 : x ≠ 0) (hlow : x &&& (18446744073709551616 - x) = a) :
    IntKind.u64.wrap (bits BinOp.and IntKind.u64 (x : Int) (IntKind.u64.wrap (-(x : Int))) * 285870213051353865) / 288230376151711744 = ((a * 285870213051353865 % 18446744073709551616 / 288230376151711744 : Nat) : Int) := by
  have e1 : IntKind.u64.wrap (-(x : Int)) = ((18446744073709551616 - x : Nat) : Int) := by rw [IntKind.wrap_u64]; omega
  rw [e1, bits_and_u64_nat x _ hx (by omega), hlow, IntKind.wrap_u64]
  omega
theorem tz_any (x : Nat) (w : World) (hx0 : x ≠ 0) (hx : x < 18446744073709551616) (hT : DeB w) :
    Calls Tryd.prog 35 #[.int .u64 x] w fun e w' => e = .returned (.int .i64 (Lib.ctz 64 x)) ∧ w' = w := by
  obtain ⟨hlow, hk⟩ := Lib.lowest_bit 64 x hx0 hx
  obtain ⟨hi, htab⟩ := Lib.deBruijn64_at _ hk
  refine tz_core x (Lib.ctz 64 x) _ w (by simp; omega) (tz_key x _ hx hx0 hlow) hi hk ?_
  rw [hT _ hi, htab]

set_option maxRecDepth 100000 in
set_option maxHeartbeats 4000000 in
theorem shared_any (g o1 n1 c1 p o2 n2 c2 q m : Nat) (L : List UInt8) (w : World) (hr1 : RdB w g o1 L p n1) (hr2 : RdB w g o2 L q n2) (h1 : m ≤ n1) (h2 : m ≤ n2) (hc1 : n1 ≤ c1) (hc2 : n2 ≤ c2) (hm : m ≤ 258) (hb1 : c1 ≤ 9223372036854775807) (hb2 : c2 ≤ 9223372036854775807) (hp : p + n1 = L.length) (hq : q + n2 = L.length) (hT : DeB w) :
    Calls Tryd.prog 30 #[.slice (some ⟨g, o1, none⟩) n1 c1, .slice (some ⟨g, o2, none⟩) n2 c2, .int .i64 (m : Int)] w fun e w' => e = .returned (.int .i64 (shr L p q m : Int)) ∧ Kept NoB w w' := by
  have HR1 := Lib.hid hr1; have HR2 := Lib.hid hr2; have HT := Lib.hid hT; have HP := Lib.hid hp; have HQ := Lib.hid hq
  clear hr1 hr2 hT hp hq
  have HEq := Lib.hid (fun k => shr_eq L m p q k)
  obtain ⟨R, hR⟩ : ∃ R, R = shr L p q m := ⟨_, rfl⟩
  rw [← hR] at HEq ⊢
  clear hR
  go_enter Tryd.func30, Tryd.ntmps30
  go_wp2
  go_loopw [7, 8] (fun v7 v8 wr => ∃ i : Nat, v7 = .int .i64 (i : Int) ∧ i ≤ m ∧ Hid (∀ j, j < i → L.getD (p + j) 0 = L.getD (q + j) 0) ∧ Hid (Kept NoB w wr)) (fun v7 _ _ => m - (intOf v7).toNat)
  case atStart => exact ⟨0, rfl, by omega, Lib.hid (fun j hj => by omega), Lib.hid (Kept.refl _ _)⟩
  case round =>
    obtain ⟨i, rfl, hi, HI, HK⟩ := hrel
    by_cases h8 : i + 8 ≤ m
    · have h8i : (i : Int) + 8 ≤ (m : Int) := by omega
      have HW1 := Lib.hid (fun W (hk : Kept NoB wr W) => word_any g (o1 + i) (n1 - i) (c1 - i) (p + i) L W ((HR1.out.kept (HK.out.trans hk)).drop i) (by omega) (by omega) (by have := HP.out; omega))
      have HW2 := Lib.hid (fun W (hk : Kept NoB wr W) => word_any g (o2 + i) (n2 - i) (c2 - i) (q + i) L W ((HR2.out.kept (HK.out.trans hk)).drop i) (by omega) (by omega) (by have := HQ.out; omega))
      have hk1 := key_iff L 8 (p + i) (q + i) (by have := HP.out; omega) (by have := HQ.out; omega)
      have hct := ctz_part L (p + i) (q + i) (by have := HP.out; omega) (by have := HQ.out; omega)
      have hl1 : keyN L 8 (p + i) < 2 ^ 64 := key_lt L 8 _
      have hl2 : keyN L 8 (q + i) < 2 ^ 64 := key_lt L 8 _
      have hxl := Nat.xor_lt_two_pow hl1 hl2
      have hxz := xor_zero (keyN L 8 (p + i)) (keyN L 8 (q + i))
      have hbx : bits .xor .u64 (keyN L 8 (p + i) : Int) (keyN L 8 (q + i) : Int) = ((keyN L 8 (p + i) ^^^ keyN L 8 (q + i) : Nat) : Int) := bits_xor_u64_nat _ _ hl1 hl2
      obtain ⟨k1, hk1e⟩ : ∃ k1, k1 = keyN L 8 (p + i) := ⟨_, rfl⟩
      obtain ⟨k2, hk2e⟩ : ∃ k2, k2 = keyN L 8 (q + i) := ⟨_, rfl⟩
      rw [← hk1e] at HW1; rw [← hk2e] at HW2
      rw [← hk1e, ← hk2e] at hk1 hct hxl hxz hbx
      obtain ⟨X, hX⟩ : ∃ X, X = k1 ^^^ k2 := ⟨_, rfl⟩
      rw [← hX] at hct hxl hxz hbx
      have HX := Lib.hid hxz; have HCt := Lib.hid hct; have HKi := Lib.hid hk1; have HXl := Lib.hid hxl
      have hin1 : (i : Int) ≤ (n1 : Int) := by omega
      have hin2 : (i : Int) ≤ (n2 : Int) := by omega
      have hic1 : ¬ c1 = i := by omega
      have hic2 : ¬ c2 = i := by omega
      have hw0 := Kept.refl NoB wr
      clear hk1 hct hl1 hl2 hxl hxz hk1e hk2e hX
      go_upto_region 3 with fail
      go_region_held3 (fun W => Kept NoB wr W) (first | assumption | exact Kept.drew (by assumption) | exact Kept.trans (by assumption) hkn)
        (first
          | (go_at_call 28; ((with_reducible refine (HW1.out _ (by assumption)).mono ?_); rintro e wn ⟨rfl, hkn⟩))
          | (go_at_call 28; ((with_reducible refine (HW2.out _ (by assumption)).mono ?_); rintro e wn ⟨rfl, hkn⟩)))
      all_goals (
        have HKn := Lib.hid (HK.out.trans (show Kept NoB wr wn by assumption))
        by_cases hx0 : X = 0
        · have y1 : ((X : Int) == 0) = true := by rw [hx0]; rfl
          have y2 : ((X : Int) != 0) = false := by rw [hx0]; rfl
          have HI2 : Hid (∀ j, j < i + 8 → L.getD (p + j) 0 = L.getD (q + j) 0) := Lib.hid (fun j hj => by
            by_cases hji : j < i
            · exact HI.out j hji
            · have := (HKi.out.1 (HX.out.1 hx0)) (j - i) (by omega)
              rw [show p + i + (j - i) = p + j by omega, show q + i + (j - i) = q + j by omega] at this
              exact this)
          clear hx0 hbx
          go_wp2
          go_roundw
          case rel => exact ⟨i + 8, by go_num, by omega, HI2, HKn⟩
          case measure => simp [intOf]; omega
        · have y1 : ((X : Int) == 0) = false := by simp; omega
          have y2 : ((X : Int) != 0) = true := by simp; omega
          obtain ⟨t1, t2, t3⟩ := HCt.out hx0
          have HTz := Lib.hid (tz_any X wn hx0 HXl.out (HT.out.kept HKn.out))
          obtain ⟨ct, hct⟩ : ∃ ct, ct = Lib.ctz 64 X := ⟨_, rfl⟩
          rw [← hct] at t1 t2 t3 HTz
          obtain ⟨cq, hcq⟩ : ∃ cq, cq = ct / 8 := ⟨_, rfl⟩
          rw [← hcq] at t1 t2 t3
          have hd1 : (ct : Int) / 8 = (cq : Int) := by omega
          have hd2 : (ct : Int).tdiv 8 = (cq : Int) := by rw [Int.tdiv_eq_ediv_of_nonneg (by omega)]; exact hd1
          have HF : Hid (R = i + cq) := Lib.hid (HEq.out (i + cq) (by omega) (fun j hj => by
            by_cases hji : j < i
            · exact HI.out j hji
            · have := t2 (j - i) (by omega)
              rw [show p + i + (j - i) = p + j by omega, show q + i + (j - i) = q + j by omega] at this
              exact this) (.inr (by rw [show p + (i + cq) = p + i + cq by omega, show q + (i + cq) = q + i + cq by omega]; exact t3)))
          clear hx0 hct hcq t2 t3 hbx
          go_wp2_with fail
          with_reducible refine HTz.out.mono ?_
          rintro e w5 ⟨rfl, rfl⟩
          go_wp2
          go_ret
          exact ⟨by rw [HF.out]; first | rfl | simp, HKn.out⟩)
    · have h8i : ¬ (i : Int) + 8 ≤ (m : Int) := by omega
      go_wp2
      go_loopw [7] (fun v7 wq => ∃ i : Nat, v7 = .int .i64 (i : Int) ∧ i ≤ m ∧ Hid (∀ j, j < i → L.getD (p + j) 0 = L.getD (q + j) 0) ∧ Hid (Kept NoB w wq)) (fun v7 _ => m - (intOf v7).toNat)
      case atStart => exact ⟨i, rfl, hi, HI, HK⟩
      case round =>
        clear h8i h8 hi HI HK
        obtain ⟨i, rfl, hi, HI, HK⟩ := hrel
        by_cases hlt : i < m
        · have hli : (i : Int) < (m : Int) := by omega
          have c1a := HK.out.cell (HR1.out i (by omega))
          have c2a := HK.out.cell (HR2.out i (by omega))
          have hs1 : (i : Int) < (n1 : Int) := by omega
          have hs2 : (i : Int) < (n2 : Int) := by omega
          obtain ⟨x, hx⟩ : ∃ x, x = L.getD (p + i) 0 := ⟨_, rfl⟩
          obtain ⟨y, hy⟩ : ∃ y, y = L.getD (q + i) 0 := ⟨_, rfl⟩
          rw [← hx] at c1a
          rw [← hy] at c2a
          by_cases hxy : x = y
          · have HI2 : Hid (∀ j, j < i + 1 → L.getD (p + j) 0 = L.getD (q + j) 0) := Lib.hid (fun j hj => by
              by_cases e : j = i
              · subst e; rw [← hx, ← hy]; exact hxy
              · exact HI.out j (by omega))
            clear hx hy
            subst hxy
            have hbb : ((x.toNat : Int) == (x.toNat : Int)) = true := by simp
            go_wp2_with fail
            go_quiet (fail)
            have HK2 := Lib.hid (HK.out.drewN nq)
            go_wp2
            go_roundw
            case rel => exact ⟨i + 1, by go_num, by omega, HI2, HK2⟩
            case measure => simp [intOf]; omega
          · have HF : Hid (R = i) := Lib.hid (HEq.out i (by omega) HI.out (.inr (by rw [← hx, ← hy]; exact hxy)))
            have hbb : ((x.toNat : Int) == (y.toNat : Int)) = false := by
              have : x.toNat ≠ y.toNat := fun e => hxy (UInt8.toNat_inj.1 e)
              simp; omega
            have hbn : ((x.toNat : Nat) == y.toNat) = false := by
              have : x.toNat ≠ y.toNat := fun e => hxy (UInt8.toNat_inj.1 e)
              simpa using this
            clear hx hy hxy
            go_wp2_with fail
            go_quiet (fail)
            have HK2 := Lib.hid (HK.out.drewN nq)
            go_wp2
            go_ret
            exact ⟨by rw [HF.out]; rfl, HK2.out⟩
        · have hie : i = m := by omega
          have HF : Hid (R = i) := Lib.hid (HEq.out i (by omega) HI.out (.inl hie))
          have hd : decide ((i : Int) < (m : Int)) = false := decide_eq_false (by omega)
          clear hie
          go_wp2_with fail
          go_quiet (fail)
          have HK2 := Lib.hid (HK.out.drewN nq)
          go_wp2
          go_ret
          exact ⟨by rw [HF.out]; rfl, HK2.out⟩
end Go.Proofs.YtifoldonmmobpaaDoor
