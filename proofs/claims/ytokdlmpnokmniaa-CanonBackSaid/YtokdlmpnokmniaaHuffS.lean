/-
  huff.leavesOf: a row of leaves that is sorted already stays as it is.
-/
import Derived.Test.YtokdlmpnokmniaaHuffL
namespace Go.Proofs.Ytokdlmpnokmniaa
open Go.RowKit
set_option linter.unusedVariables false
set_option linter.unusedSimpArgs false

theorem nan_any (x : Int) (w : World) : Calls Try.prog 48 #[.int .i64 x] w fun e w' => e = .returned (.bool false) ∧ w = w' := by
  go_enter Try.func48, Try.ntmps48
  go_wp2
  go_ret
  exact ⟨rfl, rfl⟩
def cmpI (x y : Int) : Int := if x < y then -1 else if y < x then 1 else 0
theorem compare_any (x y : Int) (w : World) : Calls Try.prog 44 #[.int .i64 x, .int .i64 y] w fun e w' => e = .returned (.int .i64 (cmpI x y)) ∧ w = w' := by
  have HN := Lib.hid nan_any
  have hc : (x < y ∧ cmpI x y = -1) ∨ (¬ x < y ∧ y < x ∧ cmpI x y = 1) ∨ (¬ x < y ∧ ¬ y < x ∧ cmpI x y = 0) := by
    unfold cmpI
    by_cases h1 : x < y
    · exact .inl ⟨h1, if_pos h1⟩
    · by_cases h2 : y < x
      · exact .inr (.inl ⟨h1, h2, by rw [if_neg h1, if_pos h2]⟩)
      · exact .inr (.inr ⟨h1, h2, by rw [if_neg h1, if_neg h2]⟩)
  obtain ⟨c, hcc⟩ : ∃ c, c = cmpI x y := ⟨_, rfl⟩
  rw [← hcc] at hc ⊢
  clear hcc
  go_enter Try.func44, Try.ntmps44
  go_wp2_with fail
  refine (HN.out x w).mono ?_
  rintro e w1 ⟨rfl, rfl⟩
  go_wp2_with fail
  refine (HN.out y w).mono ?_
  rintro e w1 ⟨rfl, rfl⟩
  rcases hc with ⟨h1, rfl⟩ | ⟨h1, h2, rfl⟩ | ⟨h1, h2, rfl⟩
  all_goals
    go_wp2
    go_ret
    exact ⟨rfl, rfl⟩
theorem less_any (p q x y : Int) (w : World) : Calls Try.prog 43 #[.agg #[.int .i64 p, .int .i64 x], .agg #[.int .i64 q, .int .i64 y]] w fun e w' => e = .returned (.int .i64 (cmpI x y)) ∧ Kept NoB w w' := by
  have HC := Lib.hid (compare_any x y)
  go_enter Try.func43, Try.ntmps43
  go_wp2_with fail
  refine (HC.out _).mono ?_
  rintro e w1 ⟨rfl, rfl⟩
  go_wp2
  go_ret
  exact ⟨rfl, ((Kept.refl _ _).alloc _).alloc _⟩

/-- The weights do not fall. -/
def Up (lv : List (Int × Int)) : Prop := ∀ i, i + 1 < lv.length → (lv.getD i (0, 0)).2 ≤ (lv.getD (i + 1) (0, 0)).2

set_option maxRecDepth 20000 in
set_option maxHeartbeats 1000000 in
theorem insertion_up (a : Option Addr) (c B : Nat) (lv : List (Int × Int)) (w : World) (hr : RdLf w B a lv) (hu : Up lv) (hl : lv.length ≤ 1000) :
    Calls Try.prog 50 #[.slice a lv.length c, .int .i64 0, .int .i64 (lv.length : Int), .func (.func 43) #[] #[]] w fun e w' => e = .returned (.tuple #[]) ∧ Kept NoB w w' := by
  have HR := Lib.hid hr; have HU := Lib.hid hu; have HL := Lib.hid less_any
  obtain ⟨n, hn⟩ : ∃ n, n = lv.length := ⟨_, rfl⟩
  have HN := Lib.hid hn
  rw [← hn] at hl ⊢
  clear hr hu hn
  go_enter Try.func50, Try.ntmps50
  go_wp2
  go_loopw [8, 9] (fun v8 _v9 wr => ∃ j : Nat, v8 = .int .i64 (j : Int) ∧ 1 ≤ j ∧ Hid (Kept NoB w wr)) (fun v8 _ _ => n - (intOf v8).toNat)
  case atStart => exact ⟨1, rfl, by omega, Kept.refl _ _⟩
  case round =>
    obtain ⟨j, rfl, hj, HK⟩ := hrel
    by_cases hlt : (j : Int) < n
    · obtain ⟨i, hji⟩ : ∃ i, i + 1 = j := ⟨j - 1, by omega⟩
      obtain ⟨g, off, rfl, _, hp0, hx0⟩ := HR.out j (by have := HN.out; omega)
      obtain ⟨g', off', he, _, hq0, hy0⟩ := HR.out i (by have := HN.out; omega)
      cases he
      have hup := HU.out i (by have := HN.out; omega)
      rw [hji] at hup
      obtain ⟨p, hp⟩ : ∃ p, p = (lv.getD j (0, 0)).1 := ⟨_, rfl⟩
      obtain ⟨x, hx⟩ : ∃ x, x = (lv.getD j (0, 0)).2 := ⟨_, rfl⟩
      obtain ⟨q, hq⟩ : ∃ q, q = (lv.getD i (0, 0)).1 := ⟨_, rfl⟩
      obtain ⟨y, hy⟩ : ∃ y, y = (lv.getD i (0, 0)).2 := ⟨_, rfl⟩
      rw [← hp] at hp0
      rw [← hx] at hx0 hup
      rw [← hq] at hq0
      rw [← hy] at hy0 hup
      have hcmp : decide (cmpI x y < 0) = false := by
        apply decide_eq_false
        unfold cmpI
        rw [if_neg (by omega)]
        split <;> decide
      obtain ⟨k, hk⟩ : ∃ k, k = cmpI x y := ⟨_, rfl⟩
      have hless : ∀ w, Calls Try.prog 43 #[.agg #[.int .i64 p, .int .i64 x], .agg #[.int .i64 q, .int .i64 y]] w fun e w' => e = .returned (.int .i64 k) ∧ Kept NoB w w' := by
        rw [hk]; exact HL.out p q x y
      rw [← hk] at hcmp
      have HLs := Lib.hid hless
      have HP0 := Lib.hid hp0; have HX0 := Lib.hid hx0; have HQ0 := Lib.hid hq0; have HY0 := Lib.hid hy0
      clear hp hx hq hy hk hless hp0 hx0 hq0 hy0 hup
      go_wp2
      go_loopw [9] (fun v9 wr => v9 = .int .i64 (j : Int) ∧ Hid (Kept NoB w wr)) (fun _ _ => 0)
      case atStart => exact ⟨rfl, HK⟩
      case round =>
        clear HK
        obtain ⟨rfl, HK⟩ := hrel
        have b1 : (j : Int) < (n : Int) := by omega
        have b2 : (i : Int) < (n : Int) := by omega
        have b3 : (0 : Int) ≤ (j : Int) := by omega
        have b4 : (0 : Int) ≤ (i : Int) := by omega
        have b5 : decide ((0 : Int) < (j : Int)) = true := decide_eq_true (by omega)
        have b5n : decide (0 < j) = true := decide_eq_true (by omega)
        have b6 : IntKind.i64.wrap ((j : Int) - 1) = (i : Int) := by rw [IntWalk.i64_in _ (by omega)]; omega
        have b7 : j < n := by omega
        have b8 : i < n := by omega
        have b9 : (0 : Int) < (j : Int) := by omega
        have HJi := Lib.hid hji
        clear hji
        have hk0 : Kept NoB wr wr := Kept.refl _ _
        have d0 : ∀ W : World, Kept NoB wr W → W.cell? ⟨g, off + j * 2, none⟩ = some (.int .i64 p) := fun W hk => (HK.out.trans hk).cell HP0.out
        have d1 : ∀ W : World, Kept NoB wr W → W.cell? ⟨g, off + j * 2 + 1, none⟩ = some (.int .i64 x) := fun W hk => (HK.out.trans hk).cell HX0.out
        have d2 : ∀ W : World, Kept NoB wr W → W.cell? ⟨g, off + i * 2, none⟩ = some (.int .i64 q) := fun W hk => (HK.out.trans hk).cell HQ0.out
        have d3 : ∀ W : World, Kept NoB wr W → W.cell? ⟨g, off + i * 2 + 1, none⟩ = some (.int .i64 y) := fun W hk => (HK.out.trans hk).cell HY0.out
        go_upto_region 4 with fail
        go_region_held3 (fun W => Kept NoB wr W) (first | assumption | exact Kept.drew (Kept.refl _ _) | exact Kept.drew (by assumption) | exact Kept.trans (by assumption) hkn)
          (first
            | (go_at_call 43; ((with_reducible refine (HLs.out _).mono ?_); rintro e wn ⟨rfl, hkn⟩)))
        have hkw : Kept NoB wr wn := by assumption
        have HKw := Lib.hid (HK.out.trans hkw)
        clear hkw hkn d0 d1 d2 d3 hk0
        go_wp2
        go_roundw
        case rel => exact ⟨j + 1, by go_num, by omega, HKw⟩
        case measure => simp [intOf]; omega
    · have hge : n ≤ j := by omega
      go_wp2
      go_end0
      exact ⟨rfl, HK.out⟩

end Go.Proofs.Ytokdlmpnokmniaa
