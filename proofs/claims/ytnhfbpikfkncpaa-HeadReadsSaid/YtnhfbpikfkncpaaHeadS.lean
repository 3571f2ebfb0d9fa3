/-
  head.Split, and the document's.
-/
import Derived.Test.YtnhfbpikfkncpaaHeadG
namespace Go.Proofs.Ytnhfbpikfkncpaa
open Go.RowKit
set_option linter.unusedVariables false
set_option linter.unusedSimpArgs false

/-- May a path be split here? -/
def splC (l : List UInt8) (i : Nat) : Bool := decide (l.getD i 0 = 47) && decide (1 ≤ l.length - 1 - i) && decide (l.length - 1 - i ≤ 100) && decide (i ≤ 155)
/-- The last such place that is no further than i. -/
def spl (l : List UInt8) : Nat → Option Nat
  | 0 => none
  | i + 1 => if splC l (i + 1) = true then some (i + 1) else spl l i
theorem spl_far (l : List UInt8) : ∀ i, 100 < l.length - 1 - i → spl l i = none
  | 0, _ => rfl
  | i + 1, h => by
    have : splC l (i + 1) = false := by
      unfold splC
      rw [decide_eq_false (show ¬ l.length - 1 - (i + 1) ≤ 100 by omega)]; simp
    rw [spl, this]
    exact spl_far l i (by omega)
theorem spl_some (l : List UInt8) : ∀ i k, spl l i = some k → splC l k = true ∧ 1 ≤ k ∧ k ≤ i
  | 0, k, h => by cases h
  | i + 1, k, h => by
    rw [spl] at h
    split at h
    · rename_i hc
      simp only [Option.some.injEq] at h
      subst h
      exact ⟨hc, by omega, Nat.le_refl _⟩
    · have := spl_some l i k h; exact ⟨this.1, this.2.1, by omega⟩
def splF (S : ByteArray) (n : Nat) : Option Nat → ByteArray × ByteArray × Bool
  | some i => (S.extract 0 i, S.extract (i + 1) n, true)
  | none => (⟨#[]⟩, ⟨#[]⟩, false)
def splB (S : ByteArray) : ByteArray × ByteArray × Bool :=
  if S.size = 0 then (⟨#[]⟩, ⟨#[]⟩, false) else if S.size ≤ 100 then (⟨#[]⟩, S, true) else splF S S.size (spl S.data.toList (S.size - 1))
theorem st_at (S : ByteArray) (i : Nat) (hi : i < S.size) : ((S[i]).toNat : Int) = ((S.data.toList.getD i 0).toNat : Int) := by
  have hl : i < S.data.toList.length := by rw [← Lib.size_eq]; exact hi
  have : S.data.toList.getD i 0 = S[i] := by
    simp [List.getD]
    rw [Array.getElem?_eq_getElem (by exact hi)]
    rfl
  rw [this]
theorem size_isEmpty (S : ByteArray) : S.toList.isEmpty = decide (S.size = 0) := by
  have e : S.toList.length = S.size := by rw [ByteArray.toList_eq]; rfl
  by_cases h : S.size = 0
  · rw [decide_eq_true h, List.isEmpty_iff]
    exact List.eq_nil_of_length_eq_zero (e.trans h)
  · rw [decide_eq_false h]
    cases hl : S.toList with
    | nil => rw [hl] at e; exact absurd e.symm h
    | cons _ _ => rfl
def SplR (S : ByteArray) (w : World) (e : Ending) (w' : World) : Prop := e = .returned (.tuple #[.string (splB S).1, .string (splB S).2.1, .bool (splB S).2.2]) ∧ Kept NoB w w'

set_option maxRecDepth 20000 in
set_option maxHeartbeats 4000000 in
theorem split_any (S : ByteArray) (w : World) (hsz : S.size ≤ 9223372036854775807) : Calls Try.prog 19 #[.string S] w (SplR S w) := by
  obtain ⟨n, hn⟩ : ∃ n, S.size = n := ⟨_, rfl⟩
  have he := size_isEmpty S
  have hat := fun i hi => st_at S i hi
  obtain ⟨l, hl⟩ : ∃ l, l = S.data.toList := ⟨_, rfl⟩
  have hll : l.length = n := by rw [hl, ← Lib.size_eq, hn]
  have hspl : splB S = if n = 0 then (⟨#[]⟩, ⟨#[]⟩, false) else if n ≤ 100 then (⟨#[]⟩, S, true) else splF S n (spl l (n - 1)) := by rw [splB, hn, ← hl]
  rw [← hl] at hat
  rw [hn] at he hsz
  have HSp := Lib.hid hspl; have HAt := Lib.hid hat; have HLl := Lib.hid hll; have HN := Lib.hid hn
  clear hspl hat hll hl
  by_cases h0 : n = 0
  · subst h0
    rw [decide_eq_true rfl] at he
    have HF : Hid (splB S = (⟨#[]⟩, ⟨#[]⟩, false)) := Lib.hid (by rw [HSp.out, if_pos rfl])
    go_enter Try.func19, Try.ntmps19
    go_wp2
    go_ret3
    exact ⟨by rw [HF.out]; rfl, Kept.refl _ _⟩
  rw [decide_eq_false h0] at he
  have he2 : (S.toList == []) = false := by rw [← he]; cases S.toList <;> rfl
  by_cases h1 : n ≤ 100
  · have HF : Hid (splB S = (⟨#[]⟩, S, true)) := Lib.hid (by rw [HSp.out, if_neg h0, if_pos h1])
    have h1i : (n : Int) ≤ 100 := by omega
    go_enter Try.func19, Try.ntmps19
    go_wp2
    go_ret3
    exact ⟨by rw [HF.out]; rfl, Kept.refl _ _⟩
  have h1i : ¬ (n : Int) ≤ 100 := by omega
  obtain ⟨R, hR⟩ : ∃ R, R = spl l (n - 1) := ⟨_, rfl⟩
  have HSp2 : Hid (splB S = splF S n R) := Lib.hid (by rw [HSp.out, if_neg h0, if_neg h1, hR])
  have hR2 : R = spl l (n - 2) := by
    obtain ⟨m, rfl⟩ : ∃ m, n = m + 2 := ⟨n - 2, by omega⟩
    rw [hR, show m + 2 - 1 = m + 1 by omega, show m + 2 - 2 = m by omega, spl]
    have : splC l (m + 1) = false := by
      unfold splC
      rw [decide_eq_false (show ¬ 1 ≤ l.length - 1 - (m + 1) by have := HLl.out; omega)]; simp
    rw [this]; rfl
  have HR2 := Lib.hid hR2
  clear hR hR2 h0 h1
  obtain ⟨m, hm⟩ : ∃ m, m = n - 2 := ⟨_, rfl⟩
  have hm2 : (n : Int) - 2 = (m : Int) := by omega
  have HM := Lib.hid hm
  rw [← hm] at HR2
  have hmn : m + 2 = n := by omega
  have HMN := Lib.hid hmn
  clear hm
  go_enter Try.func19, Try.ntmps19
  go_wp2
  go_loopw [5] (fun v5 wr => ∃ q : Nat, v5 = .int .i64 (q : Int) ∧ q + 2 ≤ n ∧ Hid (R = spl l q) ∧ Hid (w = wr)) (fun v5 _ => (intOf v5).toNat)
  case atStart => exact ⟨m, by rw [← hm2], by omega, HR2, Lib.hid rfl⟩
  case round =>
    obtain ⟨q, rfl, hq, HRq, HW⟩ := hrel
    by_cases hq0 : q = 0
    · have HF : Hid (splB S = (⟨#[]⟩, ⟨#[]⟩, false)) := Lib.hid (by rw [HSp2.out, HRq.out, hq0]; rfl)
      have hqi : ¬ (1 : Int) ≤ (q : Int) := by omega
      clear hq0
      go_wp2
      go_ret3
      exact ⟨by rw [HF.out]; rfl, by rw [HW.out]; exact Kept.refl _ _⟩
    have hqi : (1 : Int) ≤ (q : Int) := by omega
    by_cases hfar : 100 < n - 1 - q
    · have HF : Hid (splB S = (⟨#[]⟩, ⟨#[]⟩, false)) := Lib.hid (by rw [HSp2.out, HRq.out, spl_far l q (by have := HLl.out; omega)]; rfl)
      have hfi : ¬ (n : Int) - (q : Int) - 1 ≤ 100 := by omega
      clear hq0 hfar
      go_wp2
      go_ret3
      exact ⟨by rw [HF.out]; rfl, by rw [HW.out]; exact Kept.refl _ _⟩
    have hfi : (n : Int) - (q : Int) - 1 ≤ 100 := by omega
    have hqs : q < S.size := by have := HN.out; omega
    have hz := HAt.out q hqs
    obtain ⟨z, hzz⟩ : ∃ z, z = ((l.getD q 0).toNat : Int) := ⟨_, rfl⟩
    rw [← hzz] at hz
    obtain ⟨q', hq'⟩ : ∃ q', q = q' + 1 := ⟨q - 1, by omega⟩
    have hstep : spl l q = if splC l q = true then some q else spl l q' := by rw [hq', spl]
    have hz47 : z = 47 ↔ l.getD q 0 = 47 := by
      rw [hzz]
      constructor
      · intro h; exact UInt8.toNat_inj.1 (by show _ = 47; omega)
      · intro h; rw [h]; rfl
    by_cases hc : z = 47 ∧ q ≤ 155
    · have hsc : splC l q = true := by
        unfold splC
        rw [decide_eq_true (hz47.1 hc.1), decide_eq_true (show 1 ≤ l.length - 1 - q by have := HLl.out; omega), decide_eq_true (show l.length - 1 - q ≤ 100 by have := HLl.out; omega), decide_eq_true hc.2]; rfl
      obtain ⟨q1, hq1⟩ : ∃ q1, q1 = q + 1 := ⟨_, rfl⟩
      have HF : Hid (splB S = (S.extract 0 q, S.extract q1 n, true)) := Lib.hid (by rw [HSp2.out, HRq.out, hstep, if_pos hsc, hq1]; rfl)
      have hq1i : (q : Int) + 1 = (q1 : Int) := by omega
      have hw1 : IntKind.i64.wrap ((q : Int) + 1) = (q1 : Int) := by rw [hq1i]; exact IntWalk.i64_in _ (by omega)
      have hb1 : q ≤ n ∧ q1 ≤ n := by omega
      obtain ⟨rfl, h155⟩ := hc
      have h155i : (q : Int) ≤ 155 := by omega
      clear hq0 hfar hzz hstep hz47 hsc hq' hq1
      go_wp2
      go_quiet (fail)
      go_wp2
      go_ret3
      refine ⟨?_, by rw [HW.out]; exact (Kept.refl _ _).drewN _⟩
      rw [HF.out]
      first | rfl | (rw [hn]; rfl)
    · have hsc : splC l q = false := by
        unfold splC
        by_cases h47 : l.getD q 0 = 47
        · rw [decide_eq_false (show ¬ q ≤ 155 from fun h => hc ⟨hz47.2 h47, h⟩)]; simp
        · rw [decide_eq_false h47]; simp
      have HRn : Hid (R = spl l q') := Lib.hid (by rw [HRq.out, hstep, if_neg (by rw [hsc]; simp)])
      have hq'i : (q : Int) - 1 = (q' : Int) := by omega
      by_cases h47 : z = 47
      · have h155 : ¬ (q : Int) ≤ 155 := by have : ¬ q ≤ 155 := fun h => hc ⟨h47, h⟩; omega
        subst h47
        clear hq0 hfar hzz hstep hz47 hsc hq' hc
        go_wp2
        go_roundw
        case rel => exact ⟨q', by first | rfl | rw [hq'i], by omega, HRn, HW⟩
        case measure => simp [intOf]; omega
      · have h47b : (z == 47) = false := by simp [h47]
        clear hq0 hfar hzz hstep hz47 hsc hq' hc h47
        go_wp2
        go_roundw
        case rel => exact ⟨q', by first | rfl | rw [hq'i], by omega, HRn, HW⟩
        case measure => simp [intOf]; omega
set_option maxRecDepth 20000 in
set_option maxHeartbeats 4000000 in
theorem rsplit_any (S : ByteArray) (w : World) (hsz : S.size ≤ 9223372036854775807) : Calls Try.prog 20 #[.string S] w (SplR S w) := by
  obtain ⟨n, hn⟩ : ∃ n, S.size = n := ⟨_, rfl⟩
  have he := size_isEmpty S
  have hat := fun i hi => st_at S i hi
  obtain ⟨l, hl⟩ : ∃ l, l = S.data.toList := ⟨_, rfl⟩
  have hll : l.length = n := by rw [hl, ← Lib.size_eq, hn]
  have hspl : splB S = if n = 0 then (⟨#[]⟩, ⟨#[]⟩, false) else if n ≤ 100 then (⟨#[]⟩, S, true) else splF S n (spl l (n - 1)) := by rw [splB, hn, ← hl]
  rw [← hl] at hat
  rw [hn] at he hsz
  have HSp := Lib.hid hspl; have HAt := Lib.hid hat; have HLl := Lib.hid hll; have HN := Lib.hid hn
  clear hspl hat hll hl
  by_cases h0 : n = 0
  · subst h0
    rw [decide_eq_true rfl] at he
    have HF : Hid (splB S = (⟨#[]⟩, ⟨#[]⟩, false)) := Lib.hid (by rw [HSp.out, if_pos rfl])
    go_enter Try.func20, Try.ntmps20
    go_wp2
    go_loopw [5] (fun v5 wr => v5 = .int .i64 (-1) ∧ Hid (w = wr)) (fun _ _ => 0)
    case atStart => exact ⟨rfl, Lib.hid rfl⟩
    case round =>
      obtain ⟨rfl, HW⟩ := hrel
      go_wp2
      go_ret3
      exact ⟨by rw [HF.out]; rfl, by rw [HW.out]; exact Kept.refl _ _⟩
  rw [decide_eq_false h0] at he
  have hn1 : (1 : Int) ≤ (n : Int) := by omega
  have he2 : (S.toList == []) = false := by rw [← he]; cases S.toList <;> rfl
  by_cases h1 : n ≤ 100
  · have HF : Hid (splB S = (⟨#[]⟩, S, true)) := Lib.hid (by rw [HSp.out, if_neg h0, if_pos h1])
    have h1i : (n : Int) ≤ 100 := by omega
    go_enter Try.func20, Try.ntmps20
    go_wp2
    go_ret3
    exact ⟨by rw [HF.out]; rfl, Kept.refl _ _⟩
  have h1i : ¬ (n : Int) ≤ 100 := by omega
  obtain ⟨R, hR⟩ : ∃ R, R = spl l (n - 1) := ⟨_, rfl⟩
  have HSp2 : Hid (splB S = splF S n R) := Lib.hid (by rw [HSp.out, if_neg h0, if_neg h1, hR])
  have HR2 := Lib.hid hR
  clear hR h0 h1
  obtain ⟨m, hm⟩ : ∃ m, m = n - 1 := ⟨_, rfl⟩
  have hm2 : (n : Int) - 1 = (m : Int) := by omega
  rw [← hm] at HR2
  have hmn : m + 1 = n := by omega
  clear hm
  go_enter Try.func20, Try.ntmps20
  go_wp2
  go_loopw [5] (fun v5 wr => ∃ q : Nat, v5 = .int .i64 (q : Int) ∧ q + 1 ≤ n ∧ Hid (R = spl l q) ∧ Hid (w = wr)) (fun v5 _ => (intOf v5).toNat)
  case atStart => exact ⟨m, by first | rfl | rw [← hm2], by omega, HR2, Lib.hid rfl⟩
  case round =>
    obtain ⟨q, rfl, hq, HRq, HW⟩ := hrel
    by_cases hq0 : q = 0
    · have HF : Hid (splB S = (⟨#[]⟩, ⟨#[]⟩, false)) := Lib.hid (by rw [HSp2.out, HRq.out, hq0]; rfl)
      have hqi : ¬ (0 : Int) < (q : Int) := by omega
      clear hq0
      go_wp2
      go_ret3
      exact ⟨by rw [HF.out]; rfl, by rw [HW.out]; exact Kept.refl _ _⟩
    have hqi : (0 : Int) < (q : Int) := by omega
    have hqs : q < S.size := by have := HN.out; omega
    have hz := HAt.out q hqs
    obtain ⟨z, hzz⟩ : ∃ z, z = ((l.getD q 0).toNat : Int) := ⟨_, rfl⟩
    rw [← hzz] at hz
    obtain ⟨q', hq'⟩ : ∃ q', q = q' + 1 := ⟨q - 1, by omega⟩
    have hstep : spl l q = if splC l q = true then some q else spl l q' := by rw [hq', spl]
    have hz47 : z = 47 ↔ l.getD q 0 = 47 := by
      rw [hzz]
      constructor
      · intro h; exact UInt8.toNat_inj.1 (by show _ = 47; omega)
      · intro h; rw [h]; rfl
    by_cases hc : z = 47 ∧ 1 ≤ n - 1 - q ∧ n - 1 - q ≤ 100 ∧ q ≤ 155
    · have hsc : splC l q = true := by
        unfold splC
        rw [decide_eq_true (hz47.1 hc.1), decide_eq_true (show 1 ≤ l.length - 1 - q by have := HLl.out; omega), decide_eq_true (show l.length - 1 - q ≤ 100 by have := HLl.out; omega), decide_eq_true hc.2.2.2]; rfl
      obtain ⟨q1, hq1⟩ : ∃ q1, q1 = q + 1 := ⟨_, rfl⟩
      have HF : Hid (splB S = (S.extract 0 q, S.extract q1 n, true)) := Lib.hid (by rw [HSp2.out, HRq.out, hstep, if_pos hsc, hq1]; rfl)
      have hq1i : (q : Int) + 1 = (q1 : Int) := by omega
      have hw1 : IntKind.i64.wrap ((q : Int) + 1) = (q1 : Int) := by rw [hq1i]; exact IntWalk.i64_in _ (by omega)
      have hb1 : q ≤ n ∧ q1 ≤ n := by omega
      obtain ⟨rfl, ha, hb, h155⟩ := hc
      have h155i : (q : Int) ≤ 155 := by omega
      have hai : (1 : Int) ≤ (n : Int) - 1 - (q : Int) := by omega
      have hbi : (n : Int) - 1 - (q : Int) ≤ 100 := by omega
      clear hq0 hzz hstep hz47 hsc hq' hq1 ha hb
      go_wp2
      go_quiet (fail)
      go_wp2
      go_ret3
      refine ⟨?_, by rw [HW.out]; exact (Kept.refl _ _).drewN _⟩
      rw [HF.out]
      first | rfl | (rw [hn]; rfl)
    · have hsc : splC l q = false := by
        cases h : splC l q with
        | false => rfl
        | true =>
          simp only [splC, Bool.and_eq_true, decide_eq_true_eq] at h
          have := HLl.out
          exact absurd ⟨hz47.2 h.1.1.1, by omega, by omega, h.2⟩ hc
      have HRn : Hid (R = spl l q') := Lib.hid (by rw [HRq.out, hstep, if_neg (by rw [hsc]; simp)])
      have hq'i : (q : Int) - 1 = (q' : Int) := by omega
      by_cases h47 : z = 47
      · have hc2 : ¬ (1 ≤ n - 1 - q ∧ n - 1 - q ≤ 100 ∧ q ≤ 155) := fun h => hc ⟨h47, h⟩
        subst h47
        by_cases ha : (1 : Int) ≤ (n : Int) - 1 - (q : Int)
        · by_cases hb : (n : Int) - 1 - (q : Int) ≤ 100
          · have h155 : ¬ (q : Int) ≤ 155 := by omega
            clear hq0 hzz hstep hz47 hsc hq' hc hc2
            go_wp2
            go_roundw
            case rel => exact ⟨q', by first | rfl | rw [hq'i], by omega, HRn, HW⟩
            case measure => simp [intOf]; omega
          · clear hq0 hzz hstep hz47 hsc hq' hc hc2
            go_wp2
            go_roundw
            case rel => exact ⟨q', by first | rfl | rw [hq'i], by omega, HRn, HW⟩
            case measure => simp [intOf]; omega
        · clear hq0 hzz hstep hz47 hsc hq' hc hc2
          go_wp2
          go_roundw
          case rel => exact ⟨q', by first | rfl | rw [hq'i], by omega, HRn, HW⟩
          case measure => simp [intOf]; omega
      · have h47b : (z == 47) = false := by simp [h47]
        clear hq0 hzz hstep hz47 hsc hq' hc h47
        go_wp2
        go_roundw
        case rel => exact ⟨q', by first | rfl | rw [hq'i], by omega, HRn, HW⟩
        case measure => simp [intOf]; omega
end Go.Proofs.Ytnhfbpikfkncpaa
