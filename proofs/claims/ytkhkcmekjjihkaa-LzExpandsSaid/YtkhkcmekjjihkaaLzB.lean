/-
  SymLen, SymDist; the last symbol whose least number is not above one; LenSym, DistSym.
-/
import Derived.Test.YtkhkcmekjjihkaaLzA
import Derived.OwnWalk
namespace Go.Proofs.Ytkhkcmekjjihkaa
open Go.RowKit
set_option linter.unusedVariables false
set_option linter.unusedSimpArgs false

theorem symLen_any (i : Nat) (w : World) (hi : i < 28) : Calls Try.prog 11 #[.int .i64 (257 + i : Nat)] w fun e w' => e = .returned (.tuple #[.int .i64 (lb i : Nat), .int .i64 (le4 i : Nat), .bool true]) ∧ w = w' := by
  have h1 : ¬ ((257 + i : Nat) : Int) < 257 := by omega
  have h2 : ¬ (285 : Int) < ((257 + i : Nat) : Int) := by omega
  have h3 : (((257 + i : Nat) : Int) == 285) = false := by simp; omega
  have h4 : ((257 + i : Nat) : Int) - 257 = i := by omega
  have hb := (lb_top i hi)
  have HG := Lib.hid (fun w => group4_any i w (by omega))
  have hlb : lb i = 3 + gb 4 i := rfl
  have hp := Nat.one_le_two_pow (n := le4 i)
  have hg : gb 4 i ≤ 259 := by omega
  have HB : Hid (lb i = 3 + gb 4 i) := rfl
  have HE : Hid (le4 i = ge 4 i) := rfl
  rw [HB.out, HE.out]
  clear hb hlb HB HE hp
  generalize gb 4 i = b at HG hg ⊢
  generalize ge 4 i = x at HG ⊢
  generalize 257 + i = s at h1 h2 h3 h4 ⊢
  go_enter Try.func11, Try.ntmps11
  go_wp2_with fail
  refine (HG.out _).mono ?_
  rintro e w' ⟨rfl, rfl⟩
  go_wp2
  go_ret3
  exact ⟨by push_cast; rfl, rfl⟩
theorem symLen_last (w : World) : Calls Try.prog 11 #[.int .i64 285] w fun e w' => e = .returned (.tuple #[.int .i64 258, .int .i64 0, .bool true]) ∧ w = w' := by
  go_enter Try.func11, Try.ntmps11
  go_wp2
  go_ret3
  exact ⟨rfl, rfl⟩
theorem symLen_no (w : World) : Calls Try.prog 11 #[.int .i64 256] w fun e w' => e = .returned (.tuple #[.int .i64 0, .int .i64 0, .bool false]) ∧ w = w' := by
  go_enter Try.func11, Try.ntmps11
  go_wp2
  go_ret3
  exact ⟨rfl, rfl⟩
theorem symDist_no (w : World) : Calls Try.prog 13 #[.int .i64 30] w fun e w' => e = .returned (.tuple #[.int .i64 0, .int .i64 0, .bool false]) ∧ w = w' := by
  go_enter Try.func13, Try.ntmps13
  go_wp2
  go_ret3
  exact ⟨rfl, rfl⟩
theorem symDist_any (i : Nat) (w : World) (hi : i < 30) : Calls Try.prog 13 #[.int .i64 i] w fun e w' => e = .returned (.tuple #[.int .i64 (db i : Nat), .int .i64 (de i : Nat), .bool true]) ∧ w = w' := by
  have h1 : ¬ (i : Int) < 0 := by omega
  have h2 : ¬ (29 : Int) < (i : Int) := by omega
  have hb := (db_top i hi)
  have HG := Lib.hid (fun w => group2_any i w (by omega))
  have hlb : db i = 1 + gb 2 i := rfl
  have hp := Nat.one_le_two_pow (n := de i)
  have hg : gb 2 i ≤ 32769 := by omega
  have HB : Hid (db i = 1 + gb 2 i) := rfl
  have HE : Hid (de i = ge 2 i) := rfl
  rw [HB.out, HE.out]
  clear hb hlb HB HE hp
  generalize gb 2 i = b at HG hg ⊢
  generalize ge 2 i = x at HG ⊢
  go_enter Try.func13, Try.ntmps13
  go_wp2_with fail
  refine (HG.out _).mono ?_
  rintro e w' ⟨rfl, rfl⟩
  go_wp2
  go_ret3
  exact ⟨by push_cast; rfl, rfl⟩

theorem symDistZ (i : Nat) (w : World) (hi : i < 30) : Calls Try.prog 13 #[.int .i64 (0 + i : Nat)] w fun e w' => e = .returned (.tuple #[.int .i64 (db i : Nat), .int .i64 (de i : Nat), .bool true]) ∧ w = w' := by
  rw [Nat.zero_add]; exact symDist_any i w hi
/-- The last symbol from o to o + H whose least number is not above n, for whatever tells least numbers that begin below n. -/
def LastP (o H : Nat) (B E : Nat → Nat) (n : Nat) (w : World) (e : Ending) (w' : World) : Prop :=
  ∃ l, l ≤ H ∧ B l ≤ n ∧ (l < H → n < B (l + 1)) ∧ e = .returned (.tuple #[.int .i64 (o + l : Nat), .int .i64 (E l : Nat), .int .u32 (n - B l : Nat)]) ∧ w = w'
set_option maxHeartbeats 2000000 in
theorem lastLen_any (n : Nat) (w : World) (hn : 3 ≤ n) (hn2 : n ≤ 257) :
    Calls Try.prog 22 #[.int .i64 n, .int .i64 257, .int .i64 284, .func (.func 11) #[] #[]] w (LastP 257 27 lb le4 n w) := by
  go_enter Try.func22, Try.ntmps22
  go_wp2
  go_loop [1, 2] (fun a b => ∃ l h : Nat, l ≤ h ∧ h ≤ 27 ∧ a = .int .i64 (257 + l : Nat) ∧ b = .int .i64 (257 + h : Nat) ∧ Hid (lb l ≤ n) ∧ Hid (h < 27 → n < lb (h + 1))) (fun a b => (intOf b).toNat - (intOf a).toNat)
  case atStart => exact ⟨0, 27, by omega, by omega, rfl, rfl, (by rw [lb0]; exact hn : lb 0 ≤ n), (fun h => absurd h (by omega) : 27 < 27 → n < lb (27 + 1))⟩
  case round =>
    obtain ⟨l, h, hlh, hh, rfl, rfl, HL, HH⟩ := hrel
    by_cases hlt : l < h
    · obtain ⟨m, hm⟩ : ∃ m, m = (l + h + 1) / 2 := ⟨_, rfl⟩
      have hmid : (((257 + l : Nat) : Int) + ((257 + h : Nat) : Int) + 1) / 2 = ((257 + m : Nat) : Int) := by omega
      have hlti : ((257 + l : Nat) : Int) < ((257 + h : Nat) : Int) := by omega
      have hml : l < m ∧ m ≤ h := by omega
      obtain ⟨A, hA⟩ : ∃ A, A = 257 + l := ⟨_, rfl⟩
      obtain ⟨C, hC⟩ : ∃ C, C = 257 + h := ⟨_, rfl⟩
      obtain ⟨M, hM⟩ : ∃ M, M = 257 + m := ⟨_, rfl⟩
      rw [← hA, ← hC, ← hM] at hmid
      rw [← hA, ← hC] at hlti ⊢
      have hAb : A ≤ 1000 := by omega
      have hCb : C ≤ 1000 := by omega
      have hMb : 1 ≤ M ∧ M ≤ 1000 := by omega
      have HF := Lib.hid (fun w => symLen_any m w (by omega))
      rw [← hM] at HF
      have HA := Lib.hid hA; have HC := Lib.hid hC; have HM := Lib.hid hM; have HMl := Lib.hid hml; have HLt := Lib.hid hlt
      clear hm hA hC hM hml
      by_cases hle : lb m ≤ n
      · have hlei : ((lb m : Nat) : Int) ≤ (n : Int) := by omega
        have HLe := Lib.hid hle
        clear hle
        generalize lb m = bm at HF hlei
        generalize le4 m = em at HF
        go_wp2_with fail
        refine (HF.out _).mono ?_
        rintro e w' ⟨rfl, rfl⟩
        go_wp2
        go_round
        case rel => exact ⟨m, h, HMl.out.2, hh, by rw [HM.out], by rw [HC.out], HLe.out, HH.out⟩
        case measure => have := HA.out; have := HC.out; have := HM.out; have := HMl.out; have := HLt.out; simp [intOf]; omega
      · have hlei : ¬ ((lb m : Nat) : Int) ≤ (n : Int) := by omega
        have HLe := Lib.hid hle
        clear hle
        generalize lb m = bm at HF hlei
        generalize le4 m = em at HF
        go_wp2_with fail
        refine (HF.out _).mono ?_
        rintro e w' ⟨rfl, rfl⟩
        go_wp2
        go_round
        case rel =>
          have h1 := HMl.out
          refine ⟨l, m - 1, by omega, by omega, by rw [HA.out], ?_, HL, ?_⟩
          · have := HM.out; congr 1; omega
          · intro _; have := HLe.out; rw [show m - 1 + 1 = m from by omega]; omega
        case measure => have := HA.out; have := HC.out; have := HM.out; have := HMl.out; have := HLt.out; simp [intOf]; omega
    · have hlhe : l = h := by omega
      subst hlhe
      have HF := Lib.hid (fun w => symLen_any l w (by omega))
      have hle := HL.out
      have hnlt : ¬ ((257 + l : Nat) : Int) < ((257 + l : Nat) : Int) := by omega
      obtain ⟨A, hA⟩ : ∃ A, A = 257 + l := ⟨_, rfl⟩
      rw [← hA] at HF ⊢
      have HA := Lib.hid hA
      obtain ⟨r, hr⟩ : ∃ r, r = n - lb l := ⟨_, rfl⟩
      have hsub : (n : Int) - ((lb l : Nat) : Int) = r := by omega
      have hr2 : r ≤ 257 := by omega
      have hwr : IntKind.u32.wrap (r : Int) = r := by rw [IntKind.wrap_u32']; omega
      have HRr := Lib.hid hr
      have hbl : lb l ≤ 257 := by omega
      clear hA hr hnlt hlt
      obtain ⟨bl, hbe⟩ : ∃ bl, bl = lb l := ⟨_, rfl⟩
      obtain ⟨el, hee⟩ : ∃ el, el = le4 l := ⟨_, rfl⟩
      rw [← hbe] at HF hsub hle hbl
      rw [← hee] at HF
      have HBe := Lib.hid hbe; have HEe := Lib.hid hee
      clear hbe hee
      go_wp2_with fail
      refine (HF.out _).mono ?_
      rintro e w' ⟨rfl, rfl⟩
      go_wp2
      go_ret3
      exact ⟨l, hh, HL.out, HH.out, by rw [← HRr.out, ← HEe.out, ← HA.out]; rfl, rfl⟩
set_option maxHeartbeats 2000000 in
theorem lastDist_any (n : Nat) (w : World) (hn : 1 ≤ n) (hn2 : n ≤ 32768) :
    Calls Try.prog 22 #[.int .i64 n, .int .i64 0, .int .i64 29, .func (.func 13) #[] #[]] w (LastP 0 29 db de n w) := by
  go_enter Try.func22, Try.ntmps22
  go_wp2
  go_loop [1, 2] (fun a b => ∃ l h : Nat, l ≤ h ∧ h ≤ 29 ∧ a = .int .i64 (0 + l : Nat) ∧ b = .int .i64 (0 + h : Nat) ∧ Hid (db l ≤ n) ∧ Hid (h < 29 → n < db (h + 1))) (fun a b => (intOf b).toNat - (intOf a).toNat)
  case atStart => exact ⟨0, 29, by omega, by omega, rfl, rfl, (by rw [db0]; exact hn : db 0 ≤ n), (fun h => absurd h (by omega) : 29 < 29 → n < db (29 + 1))⟩
  case round =>
    obtain ⟨l, h, hlh, hh, rfl, rfl, HL, HH⟩ := hrel
    by_cases hlt : l < h
    · obtain ⟨m, hm⟩ : ∃ m, m = (l + h + 1) / 2 := ⟨_, rfl⟩
      have hmid : (((0 + l : Nat) : Int) + ((0 + h : Nat) : Int) + 1) / 2 = ((0 + m : Nat) : Int) := by omega
      have hlti : ((0 + l : Nat) : Int) < ((0 + h : Nat) : Int) := by omega
      have hml : l < m ∧ m ≤ h := by omega
      obtain ⟨A, hA⟩ : ∃ A, A = 0 + l := ⟨_, rfl⟩
      obtain ⟨C, hC⟩ : ∃ C, C = 0 + h := ⟨_, rfl⟩
      obtain ⟨M, hM⟩ : ∃ M, M = 0 + m := ⟨_, rfl⟩
      rw [← hA, ← hC, ← hM] at hmid
      rw [← hA, ← hC] at hlti ⊢
      have hAb : A ≤ 1000 := by omega
      have hCb : C ≤ 1000 := by omega
      have hMb : 1 ≤ M ∧ M ≤ 1000 := by omega
      have HF := Lib.hid (fun w => symDistZ m w (by omega))
      rw [← hM] at HF
      have HA := Lib.hid hA; have HC := Lib.hid hC; have HM := Lib.hid hM; have HMl := Lib.hid hml; have HLt := Lib.hid hlt
      clear hm hA hC hM hml
      by_cases hle : db m ≤ n
      · have hlei : ((db m : Nat) : Int) ≤ (n : Int) := by omega
        have HLe := Lib.hid hle
        clear hle
        generalize db m = bm at HF hlei
        generalize de m = em at HF
        go_wp2_with fail
        refine (HF.out _).mono ?_
        rintro e w' ⟨rfl, rfl⟩
        go_wp2
        go_round
        case rel => exact ⟨m, h, HMl.out.2, hh, by rw [HM.out], by rw [HC.out], HLe.out, HH.out⟩
        case measure => have := HA.out; have := HC.out; have := HM.out; have := HMl.out; have := HLt.out; simp [intOf]; omega
      · have hlei : ¬ ((db m : Nat) : Int) ≤ (n : Int) := by omega
        have HLe := Lib.hid hle
        clear hle
        generalize db m = bm at HF hlei
        generalize de m = em at HF
        go_wp2_with fail
        refine (HF.out _).mono ?_
        rintro e w' ⟨rfl, rfl⟩
        go_wp2
        go_round
        case rel =>
          have h1 := HMl.out
          refine ⟨l, m - 1, by omega, by omega, by rw [HA.out], ?_, HL, ?_⟩
          · have := HM.out; congr 1; omega
          · intro _; have := HLe.out; rw [show m - 1 + 1 = m from by omega]; omega
        case measure => have := HA.out; have := HC.out; have := HM.out; have := HMl.out; have := HLt.out; simp [intOf]; omega
    · have hlhe : l = h := by omega
      subst hlhe
      have HF := Lib.hid (fun w => symDistZ l w (by omega))
      have hle := HL.out
      have hnlt : ¬ ((0 + l : Nat) : Int) < ((0 + l : Nat) : Int) := by omega
      obtain ⟨A, hA⟩ : ∃ A, A = 0 + l := ⟨_, rfl⟩
      rw [← hA] at HF ⊢
      have HA := Lib.hid hA
      obtain ⟨r, hr⟩ : ∃ r, r = n - db l := ⟨_, rfl⟩
      have hsub : (n : Int) - ((db l : Nat) : Int) = r := by omega
      have hr2 : r ≤ 32768 := by omega
      have hwr : IntKind.u32.wrap (r : Int) = r := by rw [IntKind.wrap_u32']; omega
      have HRr := Lib.hid hr
      have hbl : db l ≤ 32768 := by omega
      clear hA hr hnlt hlt
      obtain ⟨bl, hbe⟩ : ∃ bl, bl = db l := ⟨_, rfl⟩
      obtain ⟨el, hee⟩ : ∃ el, el = de l := ⟨_, rfl⟩
      rw [← hbe] at HF hsub hle hbl
      rw [← hee] at HF
      have HBe := Lib.hid hbe; have HEe := Lib.hid hee
      clear hbe hee
      go_wp2_with fail
      refine (HF.out _).mono ?_
      rintro e w' ⟨rfl, rfl⟩
      go_wp2
      go_ret3
      exact ⟨l, hh, HL.out, HH.out, by rw [← HRr.out, ← HEe.out, ← HA.out]; rfl, rfl⟩
end Go.Proofs.Ytkhkcmekjjihkaa
