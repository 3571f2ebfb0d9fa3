/-
  pax.allDigits, pax.signed.
-/
import Derived.Test.YtclcgiochjibjaaGreatDoorTimeP
import Derived.Test.YtclcgiochjibjaaGreatDoorFmtU
import Derived.Test.YtclcgiochjibjaaGreatDoorPaxW
namespace Go.Proofs.YtclcgiochjibjaaGreatDoor
open Go.RowKit
set_option linter.unusedVariables false
set_option linter.unusedSimpArgs false

theorem drop_stepB (s : ByteArray) (k : Nat) (h : k < s.size) : s.data.toList.drop k = (s[k]'h) :: s.data.toList.drop (k + 1) := by
  have h2 : k < s.data.toList.length := by rw [Array.length_toList]; exact h
  rw [List.drop_eq_getElem_cons h2]
  rfl

set_option maxRecDepth 20000 in
set_option maxHeartbeats 4000000 in
theorem allDigits_any (l : List UInt8) (m : Nat) (w : World) (hl : l.length ≤ 1000000) (hm : m ≤ 1000) :
    Calls Tryz.prog 23 #[.string (strB l), .int .i64 (m : Int)] w fun e w' => e = .returned (.bool (allD l m)) ∧ w = w' := by
  obtain ⟨s, hs⟩ : ∃ s, s = strB l := ⟨_, rfl⟩
  have hsz : s.size = l.length := by rw [hs, strB_size]
  have hd : s.data.toList = l := by rw [hs, strB_data]
  have hE : s.toList = l := by rw [hs, strB_list]
  rw [← hs]
  clear hs
  have HO : Hid (allD l m = (!l.isEmpty && decide (l.length ≤ m) && l.all isD)) := Lib.hid rfl
  by_cases h0 : l = []
  · have hEE : s.toList = [] := by rw [hE, h0]
    have HF : Hid (allD l m = false) := Lib.hid (by rw [HO.out, h0]; rfl)
    clear hsz hd hE h0
    go_enter Tryz.func23, Tryz.ntmps23
    go_wp2
    go_ret
    exact ⟨by rw [HF.out]; rfl, rfl⟩
  · have hEE : ¬ s.toList = [] := by rw [hE]; exact h0
    have hE2 : s.toList.isEmpty = false := by simpa using hEE
    have hl0 : l.isEmpty = false := by simpa using h0
    by_cases h1 : (m : Int) < (s.size : Int)
    · have HF : Hid (allD l m = false) := Lib.hid (by
        have : decide (l.length ≤ m) = false := decide_eq_false (by omega)
        rw [HO.out, this]; simp)
      clear hsz hd hE h0 hl0
      go_enter Tryz.func23, Tryz.ntmps23
      go_wp2
      go_ret
      exact ⟨by rw [HF.out]; rfl, rfl⟩
    · have HF : Hid (allD l m = l.all isD) := Lib.hid (by
        have : decide (l.length ≤ m) = true := decide_eq_true (by omega)
        rw [HO.out, this, hl0]; rfl)
      have HDr : Hid (∀ k (h : k < s.size), l.drop k = (s[k]'h) :: l.drop (k + 1)) := Lib.hid (fun k h => by rw [← hd]; exact drop_stepB s k h)
      have HSz := Lib.hid hsz
      have hsz2 : s.size ≤ 1000 := by omega
      obtain ⟨R, hR⟩ : ∃ R, R = l.all isD := ⟨_, rfl⟩
      rw [← hR] at HF
      have HR := Lib.hid hR
      clear hsz hd hE h0 hl0 hR HO hl
      go_enter Tryz.func23, Tryz.ntmps23
      go_wp2
      go_loopw [5, 16] (fun _ v16 wr => ∃ k : Nat, v16 = .int .i64 (k : Int) ∧ k ≤ s.size ∧ Hid ((l.drop k).all isD = R) ∧ w = wr) (fun _ v16 _ => s.size - (intOf v16).toNat)
      case atStart => exact ⟨0, rfl, by omega, HR.out.symm, rfl⟩
      case round =>
        obtain ⟨k, rfl, hk, HX, rfl⟩ := hrel
        by_cases hlt : (k : Int) < (s.size : Int)
        · have hk2 : k < s.size := by omega
          have hX := HX.out
          rw [HDr.out k hk2, List.all_cons] at hX
          have hb := isD_iff (s[k]'hk2)
          by_cases hx : 48 ≤ (s[k]'hk2).toNat ∧ (s[k]'hk2).toNat ≤ 57
          · rw [hb.2 hx, Bool.true_and] at hX
            have q1 : ¬ ((s[k]'hk2).toNat : Int) < 48 := by omega
            have q2 : ¬ (57 : Int) < ((s[k]'hk2).toNat : Int) := by omega
            have HX2 := Lib.hid hX
            clear hX hb HX hx
            go_wp2
            go_roundw
            case rel => exact ⟨k + 1, by go_num, by omega, HX2, trivial⟩
            case measure => simp [intOf]; omega
          · have : isD (s[k]'hk2) = false := by
              cases hh : isD (s[k]'hk2) with
              | false => rfl
              | true => exact absurd (hb.1 hh) hx
            rw [this, Bool.false_and] at hX
            have HG : Hid (R = false) := Lib.hid hX.symm
            by_cases q1 : ((s[k]'hk2).toNat : Int) < 48
            · clear hX hb HX hx this
              go_wp2
              go_ret
              exact ⟨by rw [HF.out, HG.out]; rfl, rfl⟩
            · have q2 : (57 : Int) < ((s[k]'hk2).toNat : Int) := by omega
              clear hX hb HX hx this
              go_wp2
              go_ret
              exact ⟨by rw [HF.out, HG.out]; rfl, rfl⟩
        · have hdn : l.drop k = [] := List.drop_of_length_le (by have := HSz.out; omega)
          have HG : Hid (R = true) := Lib.hid (by rw [← HX.out, hdn]; rfl)
          clear hdn HX
          go_wp2
          go_ret
          exact ⟨by rw [HF.out, HG.out]; rfl, rfl⟩

set_option maxRecDepth 20000 in
set_option maxHeartbeats 4000000 in
theorem signed_any (n : Nat) (neg : Bool) (w : World) (hn : n < 18446744073709551616) :
    Calls Tryz.prog 26 #[.int .u64 (n : Int), .bool neg] w fun e w' => e = .returned (.tuple #[.int .i64 (sgnT n neg).1, .bool (sgnT n neg).2]) ∧ w = w' := by
  cases neg with
  | true =>
    by_cases h : n ≤ 9223372036854775808
    · have HS : Hid (sgnT n true = (-(n : Int), true)) := Lib.hid (by unfold sgnT; rw [if_pos rfl, if_pos h])
      have h2 : (n : Int) ≤ 9223372036854775808 := by omega
      have hw : IntKind.i64.wrap (IntKind.u64.wrap (-(n : Int))) = -(n : Int) := by rw [IntKind.wrap_u64, IntKind.wrap_i64]; omega
      go_enter Tryz.func26, Tryz.ntmps26
      go_wp2
      go_ret2
      exact ⟨by rw [HS.out]; rfl, rfl⟩
    · have HS : Hid (sgnT n true = (0, false)) := Lib.hid (by unfold sgnT; rw [if_pos rfl, if_neg h])
      have h2 : ¬ (n : Int) ≤ 9223372036854775808 := by omega
      go_enter Tryz.func26, Tryz.ntmps26
      go_wp2
      go_ret2
      exact ⟨by rw [HS.out]; rfl, rfl⟩
  | false =>
    by_cases h : n < 9223372036854775808
    · have HS : Hid (sgnT n false = ((n : Int), true)) := Lib.hid (by unfold sgnT; rw [if_neg (by decide), if_pos h])
      have h2 : (n : Int) < 9223372036854775808 := by omega
      have hw : IntKind.i64.wrap (n : Int) = (n : Int) := by rw [IntWalk.i64_in _ (by omega)]
      go_enter Tryz.func26, Tryz.ntmps26
      go_wp2
      go_ret2
      exact ⟨by rw [HS.out]; rfl, rfl⟩
    · have HS : Hid (sgnT n false = (0, false)) := Lib.hid (by unfold sgnT; rw [if_neg (by decide), if_neg h])
      have h2 : ¬ (n : Int) < 9223372036854775808 := by omega
      go_enter Tryz.func26, Tryz.ntmps26
      go_wp2
      go_ret2
      exact ⟨by rw [HS.out]; rfl, rfl⟩
end Go.Proofs.YtclcgiochjibjaaGreatDoor
