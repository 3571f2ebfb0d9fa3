/-
  head: Sum, text, Zero, magic, Split.
-/
import Derived.Test.YtnhfbpikfkncpaaHeadP
import Derived.Test.YtnhfbpikfkncpaaShelfH
import Derived.OwnWalk
namespace Go.Proofs.Ytnhfbpikfkncpaa
open Go.RowKit
set_option linter.unusedVariables false
set_option linter.unusedSimpArgs false

set_option maxRecDepth 20000 in
set_option maxHeartbeats 4000000 in
theorem hsum_any (ao : Option Addr) (n cap : Nat) (bs : List Int) (w : World) (hr : Reads w ao bs) (hb : AllB bs) (hn : n = bs.length) (hn2 : n ≤ 9223372036854775807) :
    Calls Try.prog 14 #[.slice ao n cap] w fun e w' => e = .returned (.int .i64 (sumL bs)) ∧ w = w' := by
  by_cases h5 : n = 512
  · have hs : sumL bs = sumTo bs 512 := by rw [sumL, if_pos (by omega)]
    subst h5
    obtain ⟨b, off, rfl, _, hc⟩ := hr.at (by omega)
    have hg := fun i => AllB.getD hb i
    have hbd := sumTo_bd hb
    obtain ⟨T, hT⟩ : ∃ T, T = sumTo bs := ⟨_, rfl⟩
    rw [← hT] at hs hbd
    have hst : ∀ i, T (i + 1) = T i + wgt bs i := fun i => by rw [hT]; rfl
    rw [hs]
    have HC := Lib.hid hc; have HG := Lib.hid hg; have HB := Lib.hid hbd; have HS := Lib.hid hst; have HN := Lib.hid hn
    have HT0 : Hid (T 0 = 0) := Lib.hid (by rw [hT]; rfl)
    clear hs hr hb hc hg hbd hst hT hn hn2
    go_enter Try.func14, Try.ntmps14
    go_wp2
    go_loop [3, 11] (fun v3 v11 => ∃ i : Nat, v11 = .int .i64 (i : Int) ∧ v3 = .int .i64 (T i) ∧ i ≤ 512) (fun _ v11 => 512 - (intOf v11).toNat)
    case atStart => exact ⟨0, rfl, by rw [HT0.out], by omega⟩
    case round =>
      obtain ⟨i, rfl, rfl, hi⟩ := hrel
      by_cases hlt : (i : Int) < 512
      · have hci := HC.out i (by have := HN.out; omega)
        have hgi := HG.out i
        obtain ⟨z, hz⟩ : ∃ z, z = bs.getD i 0 := ⟨_, rfl⟩
        rw [← hz] at hci hgi
        have hb1 := HB.out i
        have hst := HS.out i
        obtain ⟨t, ht⟩ : ∃ t, t = T i := ⟨_, rfl⟩
        rw [← ht] at hb1 hst ⊢
        have hcv : IntKind.i64.wrap z = z := IntWalk.i64_in _ (by omega)
        by_cases h1 : 148 ≤ (i : Int)
        · by_cases h2 : (i : Int) < 156
          · have HX : Hid (T (i + 1) = t + 32) := Lib.hid (by rw [hst, wgt, if_pos (by omega)])
            clear hst ht hz
            go_wp2
            go_round
            case rel => exact ⟨i + 1, by go_num, by rw [HX.out], by omega⟩
            case measure => simp [intOf]; omega
          · have HX : Hid (T (i + 1) = t + z) := Lib.hid (by rw [hst, wgt, if_neg (by omega), hz])
            clear hst ht hz
            go_wp2
            go_round
            case rel => exact ⟨i + 1, by go_num, by rw [HX.out], by omega⟩
            case measure => simp [intOf]; omega
        · have HX : Hid (T (i + 1) = t + z) := Lib.hid (by rw [hst, wgt, if_neg (by omega), hz])
          clear hst ht hz
          go_wp2
          go_round
          case rel => exact ⟨i + 1, by go_num, by rw [HX.out], by omega⟩
          case measure => simp [intOf]; omega
      · have hi5 : i = 512 := by omega
        subst hi5
        go_wp2
        go_ret
        exact ⟨rfl, rfl⟩
  · have hs : sumL bs = 0 := by rw [sumL, if_neg (by omega)]
    have h1 : ((n : Int) != 512) = true := by simp; omega
    have h2 : ((n : Int) == 512) = false := by simp; omega
    rw [hs]
    clear hr hn
    go_enter Try.func14, Try.ntmps14
    go_wp2
    go_ret
    exact ⟨rfl, rfl⟩

set_option maxHeartbeats 1000000 in
theorem magic_any (g : Bool) (w : World) : Calls Try.prog 23 #[.bool g] w fun e w' => e = .returned (.string (strOfNums (magB g))) ∧ w = w' := by
  cases g
  · go_enter Try.func23, Try.ntmps23
    go_wp2
    go_ret
    exact ⟨rfl, rfl⟩
  · go_enter Try.func23, Try.ntmps23
    go_wp2
    go_ret
    exact ⟨rfl, rfl⟩
end Go.Proofs.Ytnhfbpikfkncpaa
