/-
  The document's symbols: SymLen, SymDist, LenSym, DistSym.
  A slice of calls (three numbers each) that came in; what was put is there to be taken.
  CRC-32 in numbers: one step, eight, a byte, a row of bytes; sums; no step takes a number to nought but nought. No Go in sight.
  Strings of numbers; the document's own Rev.
  The table of the check, and a row of bytes through it.
  What layer 2's statements ask of themselves first: the check of a few bytes.
  The document's own check, bit by bit.
  A row of rows of bytes that came in.
  CrcParts: however bytes are parted, their check is the same.
  Slices of bytes as strings; the check of one part and of two.
  Two writers of bits, each with a row of its own; what is put by one leaves the other as it was.
  The document's own writer of bits: Put and Align, bit by bit.
  What the document's writer was given, put after put (as WroteP for the program's).
  What is put for tokens, as a function of them; the document's LenSym and DistSym tell just its parts.
-/
import Derived.Test.YtdpegahcgaicnaaGreatDoorMg24
import Derived.Laws.BytesArg
import Derived.Deep.DeepCutAuto
import Derived.Test.YtdpegahcgaicnaaGreatDoorRows
import Derived.BigRegion
import Derived.Deep.RegionWith
import Derived.Lib.SlBytesConst
import Derived.Laws.AppendOwnNone
namespace Go.Proofs.YtdpegahcgaicnaaGreatDoor
open Go.RowKit
set_option linter.unusedVariables false
set_option linter.unusedSimpArgs false
set_option maxRecDepth 20000

theorem infoSy : (Tryz.prog.info? 96).map (·.size) = some 2 := by kernel_rfl
set_option maxHeartbeats 1000000 in
theorem rsymLen_last (w : World) : Calls Tryz.prog 54 #[.int .i64 285] w fun e w' => e = .returned (.tuple #[.agg #[.int .i64 258, .int .i64 0], .bool true]) ∧ Kept NoB w w' := by
  go_enter Tryz.func54, Tryz.ntmps54
  go_wp2
  refine bodyPost_ret (results_cell_tmp rfl _ _ w.heap.size 96 #[.int .i64 258, .int .i64 0] (0, 0) _ rfl (heap_alloc_new _ _) Tryz.underlying96 rfl infoSy) rfl ?_
  exact ⟨rfl, (Kept.refl _ _).alloc _⟩
set_option maxHeartbeats 2000000 in
theorem rsymLen_any (i : Nat) (w : World) (hi : i < 28) : Calls Tryz.prog 54 #[.int .i64 ((257 + i : Nat) : Int)] w fun e w' => e = .returned (.tuple #[.agg #[.int .i64 ((lb i : Nat) : Int), .int .i64 ((le4 i : Nat) : Int)], .bool true]) ∧ Kept NoB w w' := by
  obtain ⟨s, hs⟩ : ∃ s, s = 257 + i := ⟨_, rfl⟩
  rw [← hs]
  have h1 : ¬ (s : Int) < 257 := by omega
  have h2 : ¬ (285 : Int) < (s : Int) := by omega
  have h3 : ((s : Int) == 285) = false := by simp; omega
  have hsb : s ≤ 300 := by omega
  by_cases h8 : i < 8
  · have h4 : (s : Int) < 265 := by omega
    have hb : lb i = 3 + i := by unfold lb gb; rw [if_pos (by omega)]
    have he : le4 i = 0 := by unfold le4 ge; omega
    have h5 : (s : Int) - 254 = ((3 + i : Nat) : Int) := by omega
    rw [hb, he]
    obtain ⟨b, hb2⟩ : ∃ b, b = 3 + i := ⟨_, rfl⟩
    rw [← hb2] at h5 ⊢
    have hbb : b ≤ 300 := by omega
    clear hb he hb2 hs
    go_enter Tryz.func54, Tryz.ntmps54
    go_wp2
    refine bodyPost_ret (results_cell_tmp rfl _ _ w.heap.size 96 #[.int .i64 (b : Int), .int .i64 0] (0, 0) _ rfl (heap_alloc_new _ _) Tryz.underlying96 rfl infoSy) rfl ?_
    exact ⟨rfl, (Kept.refl _ _).alloc _⟩
  · have h4 : ¬ (s : Int) < 265 := by omega
    obtain ⟨q, hq⟩ : ∃ q, q = i - 4 := ⟨_, rfl⟩
    obtain ⟨r, hr⟩ : ∃ r, r = i - 8 := ⟨_, rfl⟩
    have h5 : (s : Int) - 261 = (q : Int) := by omega
    have h6 : (s : Int) - 265 = (r : Int) := by omega
    obtain ⟨e, he⟩ : ∃ e, e = le4 i := ⟨_, rfl⟩
    have he2 : e = i / 4 - 1 := he
    have hdiv : (q : Int) / 4 = (e : Int) := by omega
    obtain ⟨m, hm⟩ : ∃ m, m = i % 4 := ⟨_, rfl⟩
    have hmod : (r : Int) % 4 = (m : Int) := by omega
    have hm4 : m < 4 := by omega
    have hb : lb i = 3 + (4 + m) * 2 ^ e := by unfold lb gb; rw [if_neg (by omega), ← he2, ← hm]
    have he13 : e ≤ 13 := by omega
    have hp : 2 ^ e ≤ 2 ^ 13 := Nat.pow_le_pow_right (by decide) he13
    have hmul : ((4 : Int) + m) * 2 ^ e = (((4 + m) * 2 ^ e : Nat) : Int) := by push_cast; rfl
    have hmb : (4 + m) * 2 ^ e ≤ 8 * 8192 := Nat.mul_le_mul (by omega) hp
    have hqb : q ≤ 300 := by omega
    have hrb : r ≤ 300 := by omega
    have hn : ¬ (e : Int) < 0 := by omega
    rw [hb, ← he]
    generalize (4 + m) * 2 ^ e = v at hmul hmb ⊢
    have hv3 : (3 : Int) + (v : Int) = ((3 + v : Nat) : Int) := by omega
    generalize 3 + v = b at hv3 ⊢
    clear hb he he2 hs hq hr hm hp h8
    go_enter Tryz.func54, Tryz.ntmps54
    go_wp2
    refine bodyPost_ret (results_cell_tmp rfl _ _ w.heap.size 96 #[.int .i64 (b : Int), .int .i64 (e : Int)] (0, 0) _ rfl (heap_alloc_new _ _) Tryz.underlying96 rfl infoSy) rfl ?_
    exact ⟨rfl, (Kept.refl _ _).alloc _⟩
set_option maxHeartbeats 2000000 in
theorem rsymDist_any (i : Nat) (w : World) (hi : i < 30) : Calls Tryz.prog 55 #[.int .i64 (i : Int)] w fun e w' => e = .returned (.tuple #[.agg #[.int .i64 ((db i : Nat) : Int), .int .i64 ((de i : Nat) : Int)], .bool true]) ∧ Kept NoB w w' := by
  have h1 : ¬ (i : Int) < 0 := by omega
  have h2 : ¬ (29 : Int) < (i : Int) := by omega
  by_cases h8 : i < 4
  · have h4 : (i : Int) < 4 := by omega
    have hb : db i = i + 1 := by unfold db gb; rw [if_pos (by omega)]; omega
    have he : de i = 0 := by unfold de ge; omega
    have h5 : (i : Int) + 1 = ((i + 1 : Nat) : Int) := by omega
    rw [hb, he]
    obtain ⟨b, hb2⟩ : ∃ b, b = i + 1 := ⟨_, rfl⟩
    rw [← hb2] at h5 ⊢
    have hbb : b ≤ 300 := by omega
    clear hb he hb2
    go_enter Tryz.func55, Tryz.ntmps55
    go_wp2
    refine bodyPost_ret (results_cell_tmp rfl _ _ w.heap.size 96 #[.int .i64 (b : Int), .int .i64 0] (0, 0) _ rfl (heap_alloc_new _ _) Tryz.underlying96 rfl infoSy) rfl ?_
    exact ⟨rfl, (Kept.refl _ _).alloc _⟩
  · have h4 : ¬ (i : Int) < 4 := by omega
    obtain ⟨q, hq⟩ : ∃ q, q = i - 2 := ⟨_, rfl⟩
    have h5 : (i : Int) - 2 = (q : Int) := by omega
    obtain ⟨e, he⟩ : ∃ e, e = de i := ⟨_, rfl⟩
    have he2 : e = i / 2 - 1 := he
    have hdiv : (q : Int) / 2 = (e : Int) := by omega
    obtain ⟨m, hm⟩ : ∃ m, m = i % 2 := ⟨_, rfl⟩
    have hmod : (i : Int) % 2 = (m : Int) := by omega
    have hm4 : m < 2 := by omega
    have hb : db i = 1 + (2 + m) * 2 ^ e := by unfold db gb; rw [if_neg (by omega), ← he2, ← hm]
    have he13 : e ≤ 13 := by omega
    have hp : 2 ^ e ≤ 2 ^ 13 := Nat.pow_le_pow_right (by decide) he13
    have hmul : ((2 : Int) + m) * 2 ^ e = (((2 + m) * 2 ^ e : Nat) : Int) := by push_cast; rfl
    have hmb : (2 + m) * 2 ^ e ≤ 4 * 8192 := Nat.mul_le_mul (by omega) hp
    have hqb : q ≤ 300 := by omega
    have hn : ¬ (e : Int) < 0 := by omega
    rw [hb, ← he]
    generalize (2 + m) * 2 ^ e = v at hmul hmb ⊢
    have hv3 : (1 : Int) + (v : Int) = ((1 + v : Nat) : Int) := by omega
    generalize 1 + v = b at hv3 ⊢
    clear hb he he2 hq hm hp h8
    go_enter Tryz.func55, Tryz.ntmps55
    go_wp2
    refine bodyPost_ret (results_cell_tmp rfl _ _ w.heap.size 96 #[.int .i64 (b : Int), .int .i64 (e : Int)] (0, 0) _ rfl (heap_alloc_new _ _) Tryz.underlying96 rfl infoSy) rfl ?_
    exact ⟨rfl, (Kept.refl _ _).alloc _⟩
def bX (i : Nat) : Nat := if i < 28 then lb i else 258
def eX (i : Nat) : Nat := if i < 28 then le4 i else 0
theorem bX_bd (i : Nat) (h : i ≤ 28) : bX i ≤ 300 ∧ eX i ≤ 13 := by
  unfold bX eX
  by_cases h2 : i < 28
  · rw [if_pos h2, if_pos h2]; have := lb_top i h2; have := Nat.one_le_two_pow (n := le4 i); omega
  · rw [if_neg h2, if_neg h2]; omega
theorem rsymLen_all (i : Nat) (w : World) (hi : i ≤ 28) : Calls Tryz.prog 54 #[.int .i64 ((257 + i : Nat) : Int)] w fun e w' => e = .returned (.tuple #[.agg #[.int .i64 ((bX i : Nat) : Int), .int .i64 ((eX i : Nat) : Int)], .bool true]) ∧ Kept NoB w w' := by
  by_cases h : i < 28
  · have := rsymLen_any i w h
    unfold bX eX
    rw [if_pos h, if_pos h]
    exact this
  · obtain rfl : i = 28 := by omega
    exact rsymLen_last w
set_option maxHeartbeats 4000000 in
theorem rlenSym_any (n : Nat) (w : World) (hn : 3 ≤ n ∧ n ≤ 258) : Calls Tryz.prog 27 #[.int .i64 (n : Int)] w fun e w' => ∃ i, i ≤ 28 ∧ bX i ≤ n ∧ (∀ k, i < k → k ≤ 28 → n < bX k) ∧ e = .returned (.tuple #[.int .i64 ((257 + i : Nat) : Int), .int .i64 ((eX i : Nat) : Int), .int .u32 ((n - bX i : Nat) : Int)]) ∧ Kept NoB w w' := by
  have h1 : ¬ (n : Int) < 3 := by omega
  have h2 : ¬ (258 : Int) < (n : Int) := by omega
  have HX := Lib.hid (fun i W hi => rsymLen_all i W hi)
  have hn2 := hn.2
  have hn1 := hn.1
  clear hn
  go_enter Tryz.func27, Tryz.ntmps27
  go_wp2_with fail
  go_loopw [5, 6, 7] (fun v _a _b wr => ∃ i : Nat, i ≤ 28 ∧ v = .int .i64 ((257 + i : Nat) : Int) ∧ Hid (∀ k, i < k → k ≤ 28 → n < bX k) ∧ Hid (Kept NoB w wr)) (fun v _ _ _ => (intOf v).toNat)
  case atStart => exact ⟨28, by omega, rfl, Lib.hid (fun k h1 h2 => absurd h1 (by omega)), Lib.hid (Kept.refl _ _)⟩
  case round =>
    obtain ⟨i, hi, rfl, HL, HK⟩ := hrel
    obtain ⟨s, hs⟩ : ∃ s, s = 257 + i := ⟨_, rfl⟩
    have hx := fun W => HX.out i W hi
    rw [← hs] at hx ⊢
    have hsb := bX_bd i hi
    obtain ⟨b, hb⟩ : ∃ b, b = bX i := ⟨_, rfl⟩
    obtain ⟨e, he⟩ : ∃ e, e = eX i := ⟨_, rfl⟩
    rw [← hb, ← he] at hx hsb
    have HXi := Lib.hid hx
    have HSs := Lib.hid hs
    have HBb := Lib.hid hb
    have HEe := Lib.hid he
    have hs1 : 257 ≤ s := by omega
    have hs2 : s ≤ 285 := by omega
    have hs3 : (257 : Int) ≤ (s : Int) := by omega
    have hbb := hsb.1
    have heb := hsb.2
    clear hx hs hb he hsb
    by_cases hbn : b ≤ n
    · have hle : (b : Int) ≤ (n : Int) := by omega
      obtain ⟨v, hv⟩ : ∃ v, v = n - b := ⟨_, rfl⟩
      have hsub : (n : Int) - (b : Int) = (v : Int) := by omega
      have hvb : v ≤ 40000 := by omega
      have hu : IntKind.u32.wrap (v : Int) = (v : Int) := IntWalk.u32_in _ (by omega)
      have HV := Lib.hid hv
      have HBn := Lib.hid hbn
      clear hv hbn
      go_wp2_with fail
      refine (HXi.out _).mono ?_
      rintro e1 w1 ⟨rfl, hk⟩
      have HK1 := Lib.hid (HK.out.trans hk)
      clear hk
      obtain ⟨B, hB⟩ : ∃ B, B = w1.heap.size := ⟨_, rfl⟩
      go_upto_region 8 with fail
      rw [← hB]
      obtain ⟨wb, hwb⟩ : ∃ wb, wb = w1.alloc (.cells #[.int .i64 (b : Int), .int .i64 (e : Int)] 96) := ⟨_, rfl⟩
      have hc0 : (w1.alloc (.cells #[.int .i64 (b : Int), .int .i64 (e : Int)] 96)).cell? ⟨B, 0, none⟩ = some (.int .i64 (b : Int)) := by rw [hB]; exact cell_new 0 rfl
      have hc1 : (w1.alloc (.cells #[.int .i64 (b : Int), .int .i64 (e : Int)] 96)).cell? ⟨B, 1, none⟩ = some (.int .i64 (e : Int)) := by rw [hB]; exact cell_new 1 rfl
      have hkb : Kept NoB w (w1.alloc (.cells #[.int .i64 (b : Int), .int .i64 (e : Int)] 96)) := HK1.out.alloc _
      rw [← hwb] at hc0 hc1 hkb ⊢
      have HKb := Lib.hid hkb
      clear hwb hB hkb
      go_quiet (fail)
      go_wp2
      go_ret3
      refine ⟨i, hi, by rw [← HBb.out]; exact HBn.out, HL.out, ?_, HKb.out.drewN _⟩
      rw [← HSs.out, ← HEe.out, ← HBb.out, ← HV.out]
      rfl
    · have hle : ¬ (b : Int) ≤ (n : Int) := by omega
      have hi0 : 0 < i := by
        rcases Nat.eq_zero_or_pos i with rfl | h
        · have h0 : bX 0 = 3 := by decide
          have := HBb.out
          omega
        · exact h
      have hs5 : (s : Int) - 1 = ((257 + (i - 1) : Nat) : Int) := by have := HSs.out; omega
      have HL2 : Hid (∀ k, i - 1 < k → k ≤ 28 → n < bX k) := Lib.hid (fun k h1 h2 => by
        by_cases hk : i < k
        · exact HL.out k hk h2
        · obtain rfl : k = i := by omega
          have := HBb.out
          omega)
      clear hbn
      go_wp2_with fail
      refine (HXi.out _).mono ?_
      rintro e1 w1 ⟨rfl, hk⟩
      have HK1 := Lib.hid (HK.out.trans hk)
      clear hk
      go_wp2
      go_roundw
      case rel => exact ⟨i - 1, by omega, by go_num, HL2, Lib.hid (HK1.out.alloc _)⟩
      case measure => simp [intOf]; omega
set_option maxHeartbeats 4000000 in
theorem rdistSym_any (n : Nat) (w : World) (hn : 1 ≤ n ∧ n ≤ 32768) : Calls Tryz.prog 28 #[.int .i64 (n : Int)] w fun e w' => ∃ i, i ≤ 29 ∧ db i ≤ n ∧ (∀ k, i < k → k ≤ 29 → n < db k) ∧ e = .returned (.tuple #[.int .i64 ((i : Nat) : Int), .int .i64 ((de i : Nat) : Int), .int .u32 ((n - db i : Nat) : Int)]) ∧ Kept NoB w w' := by
  have h1 : ¬ (n : Int) < 1 := by omega
  have h2 : ¬ (32768 : Int) < (n : Int) := by omega
  have HX := Lib.hid (fun i W hi => rsymDist_any i W (by omega))
  have hn2 := hn.2
  have hn1 := hn.1
  clear hn
  go_enter Tryz.func28, Tryz.ntmps28
  go_wp2_with fail
  go_loopw [5, 6, 7] (fun v _a _b wr => ∃ i : Nat, i ≤ 29 ∧ v = .int .i64 ((i : Nat) : Int) ∧ Hid (∀ k, i < k → k ≤ 29 → n < db k) ∧ Hid (Kept NoB w wr)) (fun v _ _ _ => (intOf v + 1).toNat)
  case atStart => exact ⟨29, by omega, rfl, Lib.hid (fun k h1 h2 => absurd h1 (by omega)), Lib.hid (Kept.refl _ _)⟩
  case round =>
    obtain ⟨i, hi, rfl, HL, HK⟩ := hrel
    obtain ⟨s, hs⟩ : ∃ s, s = i := ⟨_, rfl⟩
    have hx := fun W => HX.out i W (by omega)
    have hsb := db_top i (by omega)
    obtain ⟨b, hb⟩ : ∃ b, b = db i := ⟨_, rfl⟩
    obtain ⟨e, he⟩ : ∃ e, e = de i := ⟨_, rfl⟩
    rw [← hb, ← he] at hx hsb
    rw [← hs] at hx ⊢
    have HXi := Lib.hid hx
    have HSs := Lib.hid hs
    have HBb := Lib.hid hb
    have HEe := Lib.hid he
    have hs1 : 0 ≤ (s : Int) := by omega
    have hs2 : s ≤ 29 := by omega
    have hbb : b ≤ 40000 := by have := Nat.one_le_two_pow (n := e); omega
    have heb := hsb.2.2
    clear hx hs hb he hsb
    by_cases hbn : b ≤ n
    · have hle : (b : Int) ≤ (n : Int) := by omega
      obtain ⟨v, hv⟩ : ∃ v, v = n - b := ⟨_, rfl⟩
      have hsub : (n : Int) - (b : Int) = (v : Int) := by omega
      have hvb : v ≤ 40000 := by omega
      have hu : IntKind.u32.wrap (v : Int) = (v : Int) := IntWalk.u32_in _ (by omega)
      have HV := Lib.hid hv
      have HBn := Lib.hid hbn
      clear hv hbn
      go_wp2_with fail
      refine (HXi.out _).mono ?_
      rintro e1 w1 ⟨rfl, hk⟩
      have HK1 := Lib.hid (HK.out.trans hk)
      clear hk
      obtain ⟨B, hB⟩ : ∃ B, B = w1.heap.size := ⟨_, rfl⟩
      go_upto_region 8 with fail
      rw [← hB]
      obtain ⟨wb, hwb⟩ : ∃ wb, wb = w1.alloc (.cells #[.int .i64 (b : Int), .int .i64 (e : Int)] 96) := ⟨_, rfl⟩
      have hc0 : (w1.alloc (.cells #[.int .i64 (b : Int), .int .i64 (e : Int)] 96)).cell? ⟨B, 0, none⟩ = some (.int .i64 (b : Int)) := by rw [hB]; exact cell_new 0 rfl
      have hc1 : (w1.alloc (.cells #[.int .i64 (b : Int), .int .i64 (e : Int)] 96)).cell? ⟨B, 1, none⟩ = some (.int .i64 (e : Int)) := by rw [hB]; exact cell_new 1 rfl
      have hkb : Kept NoB w (w1.alloc (.cells #[.int .i64 (b : Int), .int .i64 (e : Int)] 96)) := HK1.out.alloc _
      rw [← hwb] at hc0 hc1 hkb ⊢
      have HKb := Lib.hid hkb
      clear hwb hB hkb
      go_quiet (fail)
      go_wp2
      go_ret3
      refine ⟨i, hi, by rw [← HBb.out]; exact HBn.out, HL.out, ?_, HKb.out.drewN _⟩
      rw [← HEe.out, ← HBb.out, ← HV.out, ← HSs.out]
      rfl
    · have hle : ¬ (b : Int) ≤ (n : Int) := by omega
      have hi0 : 0 < i := by
        rcases Nat.eq_zero_or_pos i with rfl | h
        · have h0 : db 0 = 1 := by decide
          have := HBb.out
          omega
        · exact h
      have hs5 : (s : Int) - 1 = ((i - 1 : Nat) : Int) := by have := HSs.out; omega
      have HL2 : Hid (∀ k, i - 1 < k → k ≤ 29 → n < db k) := Lib.hid (fun k h1 h2 => by
        by_cases hk : i < k
        · exact HL.out k hk h2
        · obtain rfl : k = i := by omega
          have := HBb.out
          omega)
      clear hbn
      go_wp2_with fail
      refine (HXi.out _).mono ?_
      rintro e1 w1 ⟨rfl, hk⟩
      have HK1 := Lib.hid (HK.out.trans hk)
      clear hk
      go_wp2
      go_roundw
      case rel => exact ⟨i - 1, by omega, by go_num, HL2, Lib.hid (HK1.out.alloc _)⟩
      case measure => simp [intOf]; omega
end Go.Proofs.YtdpegahcgaicnaaGreatDoor

namespace Go.Proofs.YtdpegahcgaicnaaGreatDoor
open Go.RowKit
set_option linter.unusedVariables false

/-- The calls, each with its three numbers; where they lie. -/
def OpsAt (w : World) (ao : Option Addr) (len : Nat) (kd nn vv : Nat → Int) : Prop :=
  (ao = none → len = 0) ∧ ∀ b off, ao = some ⟨b, off, none⟩ → ∀ i, i < len →
    w.cell? ⟨b, off + i * 3, none⟩ = some (.int .i64 (kd i)) ∧ w.cell? ⟨b, off + i * 3 + 1, none⟩ = some (.int .i64 (nn i)) ∧ w.cell? ⟨b, off + i * 3 + 2, none⟩ = some (.int .u32 (vv i))

theorem OpsAt.below {w w' : World} {ao : Option Addr} {len : Nat} {kd nn vv : Nat → Int} (h : OpsAt w ao len kd nn vv) (hb : Below w.heap.size w w') : OpsAt w' ao len kd nn vv := by
  refine ⟨h.1, fun b off he i hi => ?_⟩
  obtain ⟨h1, h2, h3⟩ := h.2 b off he i hi
  have hlt := World.block_lt_of_cell? w _ h1
  exact ⟨(hb.cell hlt).trans h1, (hb.cell (p := ⟨b, off + i * 3 + 1, none⟩) hlt).trans h2, (hb.cell (p := ⟨b, off + i * 3 + 2, none⟩) hlt).trans h3⟩

end Go.Proofs.YtdpegahcgaicnaaGreatDoor

namespace Go.Proofs.YtdpegahcgaicnaaGreatDoor

def poly : Nat := 3988292384
def step1 (r : Nat) : Nat := if r % 2 = 1 then r / 2 ^^^ poly else r / 2
def steps : Nat → Nat → Nat
  | 0, r => r
  | n + 1, r => step1 (steps n r)
end Go.Proofs.YtdpegahcgaicnaaGreatDoor

namespace Go.Proofs.YtdpegahcgaicnaaGreatDoor
open Go.RowKit
set_option linter.unusedVariables false

def nats (bs : List Int) : List Nat := bs.map Int.toNat
theorem and1_u32 (r : Nat) (h : r < 4294967296) : bits .and .u32 (r : Int) 1 = ((r % 2 : Nat) : Int) := by
  have := u32_and_nat r 1 h (by decide)
  rw [nat_mask1] at this
  exact this
def bytesOf (s : ByteArray) : List Nat := s.data.toList.map UInt8.toNat
theorem bytesOf_nums (bs : List Int) (h : AllB bs) : bytesOf (strOfNums bs) = nats bs := by
  unfold bytesOf nats
  rw [strOfNums_data, List.map_map]
  apply List.map_congr_left
  intro b hb
  have := h b hb
  simp
  omega
theorem shl1_or (o b : Nat) (ho : o < 2147483648) (hb : b < 2) : bits .or .u32 ((o : Int) * 2 % 4294967296) (b : Int) = ((2 * o + b : Nat) : Int) := by
  have e : ((o : Int) * 2 % 4294967296) = ((o * 2 : Nat) : Int) := by omega
  rw [e, u32_or_nat _ _ (by omega) (by omega), Nat.or_comm, show o * 2 = o * 2 ^ 1 from by omega, or_shift b o 1 (by omega)]
  congr 1; omega

set_option maxHeartbeats 2000000 in
theorem refRev_any (v n : Nat) (w : World) (hv : v < 4294967296) (hn : n ≤ 32) :
    Calls Tryz.prog 53 #[.int .u32 v, .int .i64 n] w fun e w' => e = .returned (.int .u32 (revN n v : Nat)) ∧ w = w' := by
  go_enter Tryz.func53, Tryz.ntmps53
  go_wp2
  go_loop [5, 6] (fun o i => ∃ k : Nat, k ≤ n ∧ i = .int .i64 k ∧ o = .int .u32 (revN k v : Nat)) (fun _ i => n - (intOf i).toNat)
  case atStart => exact ⟨0, by omega, rfl, rfl⟩
  case round =>
    obtain ⟨k, hk, rfl, rfl⟩ := hrel
    by_cases hlt : k < n
    · have ho : revN k v < 2147483648 := Nat.lt_of_lt_of_le (revN_lt k v) (show 2 ^ k ≤ 2 ^ 31 from pow_le_pow2 (by omega))
      have HS : Hid (revN (k + 1) v = 2 * revN k v + v / 2 ^ k % 2) := rfl
      generalize revN k v = o at ho HS ⊢
      obtain ⟨b, hb⟩ : ∃ b, b = v / 2 ^ k % 2 := ⟨_, rfl⟩
      have hb2 : b < 2 := by omega
      have hv2 : v / 2 ^ k < 4294967296 := Nat.lt_of_le_of_lt (Nat.div_le_self _ _) hv
      have hbit : bits .and .u32 ((v : Int) / 2 ^ k) 1 = b := by
        have := and1_u32 (v / 2 ^ k) hv2
        rw [← hb] at this
        rw [← this]; push_cast; rfl
      have hor := shl1_or o b ho hb2
      have HB := Lib.hid hb; clear hb hv2 ho
      generalize hx : 2 * o + b = x at hor
      have HX := Lib.hid hx; clear hx
      go_wp2
      go_round
      case rel => exact ⟨k + 1, by omega, by go_num, by rw [HS.out, ← HB.out, HX.out]⟩
      case measure => simp [intOf]; omega
    · have hkn : k = n := by omega
      subst hkn
      go_wp2
      go_ret
      exact ⟨rfl, rfl⟩
end Go.Proofs.YtdpegahcgaicnaaGreatDoor

namespace Go.Proofs.YtdpegahcgaicnaaGreatDoor
open Go.RowKit
set_option linter.unusedVariables false

/-- A row of parts, each a slice of bytes. -/
def Parts (w : World) (po : Option Addr) (ps : List (List Int)) : Prop :=
  ps = [] ∨ ∃ b off, po = some ⟨b, off, none⟩ ∧ b < w.heap.size ∧ ∀ i, i < ps.length → ∃ ao cap, w.cell? ⟨b, off + i, none⟩ = some (.slice ao (ps.getD i []).length cap) ∧ Reads w ao (ps.getD i []) ∧ (ps.getD i []).length ≤ cap ∧ cap ≤ maxLen ∧ (ao = none → cap = 0)
def AllP (ps : List (List Int)) : Prop := ∀ p ∈ ps, AllB p
theorem Parts.keptNo {w w' : World} {po : Option Addr} {ps : List (List Int)} (h : Parts w po ps) (hk : Kept NoB w w') : Parts w' po ps := by
  rcases h with h | ⟨b, off, h1, h2, h3⟩
  · exact .inl h
  · refine .inr ⟨b, off, h1, Nat.lt_of_lt_of_le h2 hk.size, fun i hi => ?_⟩
    obtain ⟨ao, cap, c, r, m⟩ := h3 i hi
    exact ⟨ao, cap, hk.cell c, r.keptNo hk, m⟩
theorem AllP.getD {ps : List (List Int)} (h : AllP ps) (i : Nat) : AllB (ps.getD i []) := by
  by_cases hi : i < ps.length
  · have : ps.getD i [] = ps[i] := by simp [List.getD, hi]
    rw [this]; exact h _ (List.getElem_mem hi)
  · have : ps.getD i [] = [] := by simp [List.getD, List.getElem?_eq_none (Nat.le_of_not_lt hi)]
    rw [this]; intro b hb; cases hb
theorem flat_succ (ps : List (List Int)) (j : Nat) (hj : j < ps.length) : (ps.take (j + 1)).flatten = (ps.take j).flatten ++ ps.getD j [] := by
  have e : ps.getD j [] = ps[j] := by simp [List.getD, hj]
  rw [e, List.take_succ_eq_append_getElem hj, List.flatten_append, List.flatten_cons, List.flatten_nil, List.append_nil]
end Go.Proofs.YtdpegahcgaicnaaGreatDoor

namespace Go.Proofs.YtdpegahcgaicnaaGreatDoor
open Go.RowKit
set_option linter.unusedVariables false

end Go.Proofs.YtdpegahcgaicnaaGreatDoor

namespace Go.Proofs.YtdpegahcgaicnaaGreatDoor
open Go.RowKit
set_option linter.unusedVariables false

end Go.Proofs.YtdpegahcgaicnaaGreatDoor

namespace Go.Proofs.YtdpegahcgaicnaaGreatDoor
open Go.RowKit
set_option linter.unusedVariables false

end Go.Proofs.YtdpegahcgaicnaaGreatDoor

namespace Go.Proofs.YtdpegahcgaicnaaGreatDoor
open Go.RowKit
set_option linter.unusedVariables false

theorem Parts.below {w w' : World} {po : Option Addr} {ps : List (List Int)} (h : Parts w po ps) (hb : Below w.heap.size w w') : Parts w' po ps :=
  h.keptNo ((Kept.refl NoB w).ofBelow hb)
end Go.Proofs.YtdpegahcgaicnaaGreatDoor

namespace Go.Proofs.YtdpegahcgaicnaaGreatDoor
open Go.RowKit
set_option linter.unusedVariables false

end Go.Proofs.YtdpegahcgaicnaaGreatDoor

namespace Go.Proofs.YtdpegahcgaicnaaGreatDoor
open Go.RowKit
set_option linter.unusedVariables false

structure Two (T1 T2 : TypeId) (w0 w : World) (A : Nat) (aoa : Option Addr) (capa : Nat) (ba : List Int) (sa : Nat) (B : Nat) (aob : Option Addr) (capb : Nat) (bb : List Int) (sb : Nat) : Prop where
  a : WtrT T1 w A aoa capa ba sa
  b : WtrT T2 w B aob capb bb sb
  ne : A ≠ B
  fa : w0.heap.size ≤ A
  fb : w0.heap.size ≤ B
  oa : ∀ k, (Value.slice aoa ba.length capa).ownBlock = some k → w0.heap.size ≤ k
  ob : ∀ k, (Value.slice aob bb.length capb).ownBlock = some k → w0.heap.size ≤ k
  ab : ∀ k, (Value.slice aoa ba.length capa).ownBlock = some k → (Value.slice aob bb.length capb).ownBlock ≠ some k
  ta : T1 ≠ 5
  tb : T2 ≠ 5
  bel : Below w0.heap.size w0 w
variable {T1 T2 : TypeId} {w0 w w' : World} {A : Nat} {aoa : Option Addr} {capa : Nat} {ba : List Int} {sa : Nat} {B : Nat} {aob : Option Addr} {capb : Nat} {bb : List Int} {sb : Nat}
theorem Two.swap (h : Two T1 T2 w0 w A aoa capa ba sa B aob capb bb sb) : Two T2 T1 w0 w B aob capb bb sb A aoa capa ba sa :=
  ⟨h.b, h.a, h.ne.symm, h.fb, h.fa, h.ob, h.oa, (fun k h1 h2 => h.ab k h2 h1), h.tb, h.ta, h.bel⟩
theorem Two.keptNo (h : Two T1 T2 w0 w A aoa capa ba sa B aob capb bb sb) (hk : Kept NoB w w') : Two T1 T2 w0 w' A aoa capa ba sa B aob capb bb sb :=
  ⟨h.a.kept hk (fun h => h) (fun _ _ h => h), h.b.kept hk (fun h => h) (fun _ _ h => h), h.ne, h.fa, h.fb, h.oa, h.ob, h.ab, h.ta, h.tb, hk.belowNo h.bel⟩
/-- The first one is written, its row where it was or new: the second stays. -/
theorem Two.put (h : Two T1 T2 w0 w A aoa capa ba sa B aob capb bb sb) {ao' : Option Addr} {cap' : Nat} {ba' : List Int} {sa' : Nat} (ha : WtrT T1 w' A ao' cap' ba' sa') (hk : Kept (OrB (OneB A) (OwnB (.slice aoa ba.length capa))) w w')
    (ho : ∀ k, (Value.slice ao' ba'.length cap').ownBlock = some k → (Value.slice aoa ba.length capa).ownBlock = some k ∨ w.heap.size ≤ k) : Two T1 T2 w0 w' A ao' cap' ba' sa' B aob capb bb sb := by
  have hbl := h.b.2.1.lt
  refine ⟨ha, h.b.kept hk ?_ ?_, h.ne, h.fa, h.fb, ?_, h.ob, ?_, h.ta, h.tb, hk.below h.bel ?_⟩
  · intro e
    rcases e with e | e
    · exact h.ne e.symm
    · exact row_ne h.a.2.1 h.b.1 h.tb B e rfl
  · intro k hk' e
    rcases e with e | e
    · exact row_ne h.b.2.1 h.a.1 h.ta k hk' e
    · exact h.ab k e hk'
  · intro k hk'
    rcases ho k hk' with e | e
    · exact h.oa k e
    · have := h.bel.size; omega
  · intro k hk' e
    rcases ho k hk' with e' | e'
    · exact h.ab k e' e
    · have := (hbl k e).2; omega
  · intro k e
    rcases e with e | e
    · have := h.fa; simp [OneB] at e; omega
    · exact h.oa k e
end Go.Proofs.YtdpegahcgaicnaaGreatDoor

namespace Go.Proofs.YtdpegahcgaicnaaGreatDoor
open Go.RowKit
set_option linter.unusedVariables false
set_option maxRecDepth 20000

def OutP (w : World) (R : Nat) (v0 : Value) (bs : List Int) (s x n : Nat) (e : Ending) (w' : World) : Prop :=
  ∃ ao' cap' bs', e = .returned (.bool true) ∧ WtrT 45 w' R ao' cap' bs' (s + n) ∧ num bs' = num bs + x * 2 ^ s ∧ Kept (OrB (OneB R) (OwnB v0)) w w' ∧
    (∀ k, (Value.slice ao' bs'.length cap').ownBlock = some k → v0.ownBlock = some k ∨ w.heap.size ≤ k)

end Go.Proofs.YtdpegahcgaicnaaGreatDoor

namespace Go.Proofs.YtdpegahcgaicnaaGreatDoor
open Go.RowKit
set_option linter.unusedVariables false
set_option linter.unusedSimpArgs false

def WroteO (w : World) (R : Nat) (v0 : Value) (bs : List Int) (s : Nat) (ps : List (Nat × Nat)) (w' : World) (ao' : Option Addr) (cap' : Nat) (bs' : List Int) : Prop :=
  WtrT 45 w' R ao' cap' bs' (s + wdN ps) ∧ num bs' = num bs + putsN ps * 2 ^ s ∧ Kept (OrB (OneB R) (OwnB v0)) w w' ∧ (∀ k, (Value.slice ao' bs'.length cap').ownBlock = some k → v0.ownBlock = some k ∨ w.heap.size ≤ k)
theorem WroteO.nil {w : World} {R : Nat} {ao : Option Addr} {cap : Nat} {bs : List Int} {s : Nat} (h : WtrT 45 w R ao cap bs s) : WroteO w R (.slice ao bs.length cap) bs s [] w ao cap bs :=
  ⟨h, by simp [putsN], Kept.refl _ _, fun k hk => .inl hk⟩
theorem WroteO.keptNo {w w1 w2 : World} {R : Nat} {v0 : Value} {bs bs1 : List Int} {s : Nat} {ps : List (Nat × Nat)} {ao1 : Option Addr} {cap1 : Nat} (h : WroteO w R v0 bs s ps w1 ao1 cap1 bs1) (hk : Kept NoB w1 w2) : WroteO w R v0 bs s ps w2 ao1 cap1 bs1 :=
  ⟨h.1.kept hk (fun e => e) (fun _ _ e => e), h.2.1, h.2.2.1.transO hk (fun i hi h => h.elim), h.2.2.2⟩
theorem WroteO.put {w w1 w2 : World} {R : Nat} {v0 : Value} {bs bs1 : List Int} {s x n : Nat} {ps : List (Nat × Nat)} {ao1 : Option Addr} {cap1 : Nat} {e : Ending} (h : WroteO w R v0 bs s ps w1 ao1 cap1 bs1) (h2 : OutP w1 R (.slice ao1 bs1.length cap1) bs1 (s + wdN ps) x n e w2) :
    ∃ ao2 cap2 bs2, e = .returned (.bool true) ∧ WroteO w R v0 bs s (ps ++ [(x, n)]) w2 ao2 cap2 bs2 := by
  obtain ⟨hw1, hw2, hw3, hw4⟩ := h
  obtain ⟨ao2, cap2, bs2, rfl, p1, p2, p3, p4⟩ := h2
  refine ⟨ao2, cap2, bs2, rfl, ?_, ?_, ?_, ?_⟩
  · rw [wdN_append]
    simp only [wdN, Nat.add_zero]
    rw [← Nat.add_assoc]
    exact p1
  · rw [putsN_append]
    simp only [putsN, Nat.zero_mul, Nat.add_zero]
    rw [p2, hw2, Nat.add_mul, Nat.add_assoc, Nat.pow_add, Nat.mul_assoc, Nat.mul_comm (2 ^ wdN _) (2 ^ s)]
  · refine hw3.transO p3 ?_
    intro j hj e
    rcases e with e | e
    · exact .inl e
    · rcases hw4 j e with h | h
      · exact .inr h
      · omega
  · intro k hk'
    rcases p4 k hk' with h | h
    · exact hw4 k h
    · have := hw3.size; omega
end Go.Proofs.YtdpegahcgaicnaaGreatDoor

namespace Go.Proofs.YtdpegahcgaicnaaGreatDoor
open Go.RowKit
set_option linter.unusedVariables false
set_option linter.unusedSimpArgs false
set_option maxRecDepth 20000

def litX (t : Tk) : Nat := if t.l = 258 then 0 else le4 (lastI lb 27 t.l.toNat)
def litV (t : Tk) : Nat := if t.l = 258 then 0 else t.l.toNat - lb (lastI lb 27 t.l.toNat)
def distV (t : Tk) : Nat := t.d.toNat - db (distSy t)
def tokWd (lit dist : List Int) (t : Tk) : List (Nat × Nat) :=
  if t.l = 0 then [wordZ lit t.c] else [wordZ lit ((litSy t : Nat) : Int), (litV t, litX t), wordZ dist ((distSy t : Nat) : Int), (distV t, de (distSy t))]
theorem sy_long {j u : Nat} (hj : j < 30) (hu : u < 2 ^ de j) : litSy ⟨258, ((db j + u : Nat) : Int), 0⟩ = 285 ∧ litV ⟨258, ((db j + u : Nat) : Int), 0⟩ = 0 ∧ litX ⟨258, ((db j + u : Nat) : Int), 0⟩ = 0 ∧ distSy ⟨258, ((db j + u : Nat) : Int), 0⟩ = j ∧ distV ⟨258, ((db j + u : Nat) : Int), 0⟩ = u := by
  have hd : distSy ⟨258, ((db j + u : Nat) : Int), 0⟩ = j := by unfold distSy; rw [Int.toNat_natCast]; exact db_last hj hu
  refine ⟨rfl, rfl, rfl, hd, ?_⟩
  unfold distV
  rw [hd, Int.toNat_natCast]; omega
theorem sy_copy {i v j u : Nat} (hi : i < 28) (hv : v < 2 ^ le4 i) (hlv : lb i + v ≤ 257) (hj : j < 30) (hu : u < 2 ^ de j) : litSy ⟨((lb i + v : Nat) : Int), ((db j + u : Nat) : Int), 0⟩ = 257 + i ∧ litV ⟨((lb i + v : Nat) : Int), ((db j + u : Nat) : Int), 0⟩ = v ∧
    litX ⟨((lb i + v : Nat) : Int), ((db j + u : Nat) : Int), 0⟩ = le4 i ∧ distSy ⟨((lb i + v : Nat) : Int), ((db j + u : Nat) : Int), 0⟩ = j ∧ distV ⟨((lb i + v : Nat) : Int), ((db j + u : Nat) : Int), 0⟩ = u := by
  have h3 := lb_top i hi
  have hd : distSy ⟨((lb i + v : Nat) : Int), ((db j + u : Nat) : Int), 0⟩ = j := by unfold distSy; rw [Int.toNat_natCast]; exact db_last hj hu
  have hn : ¬ ((lb i + v : Nat) : Int) = 258 := by omega
  refine ⟨?_, ?_, ?_, hd, ?_⟩
  · unfold litSy
    rw [if_neg (by simp only; omega), if_neg (by simp only; omega), Int.toNat_natCast, lb_last hi hv]
  · unfold litV
    rw [if_neg hn, Int.toNat_natCast, lb_last hi hv]; omega
  · unfold litX
    rw [if_neg hn, Int.toNat_natCast, lb_last hi hv]
  · unfold distV
    rw [hd, Int.toNat_natCast]; omega
theorem TokW.eq {lit dist : List Int} {t : Tk} {ws : List (Nat × Nat)} (h : TokW lit dist t ws) : ws = tokWd lit dist t := by
  cases h with
  | one c _ _ _ => rfl
  | long j u hj hu _ _ =>
    obtain ⟨e1, e2, e3, e4, e5⟩ := sy_long hj hu
    unfold tokWd
    rw [if_neg (show ¬ (258 : Int) = 0 by decide), e1, e2, e3, e4, e5]
    rfl
  | copy i v j u hi hv hlv hj hu _ _ =>
    have h3 := lb_top i hi
    obtain ⟨e1, e2, e3, e4, e5⟩ := sy_copy hi hv hlv hj hu
    unfold tokWd
    rw [if_neg (by simp only; omega), e1, e2, e3, e4, e5]
theorem TokWs.eq {lit dist : List Int} {ts : List Tk} {ws : List (Nat × Nat)} (h : TokWs lit dist ts ws) : ws = ts.flatMap (tokWd lit dist) := by
  induction h with
  | nil => rfl
  | cons a _ ih => rw [List.flatMap_cons, ← a.eq, ← ih]
theorem rlen_det {n i v : Nat} (hi : i < 28) (hv : v < 2 ^ le4 i) (hn : n = lb i + v) (hn2 : n ≤ 257) {k : Nat} (hk : k ≤ 28) (h1 : bX k ≤ n) (h2 : ∀ m, k < m → m ≤ 28 → n < bX m) : k = i := by
  have h28 : bX 28 = 258 := by decide
  by_cases hk28 : k = 28
  · subst hk28; omega
  · have hk3 : k < 28 := by omega
    have hbi : bX i = lb i := by unfold bX; rw [if_pos hi]
    have hbk : bX k = lb k := by unfold bX; rw [if_pos hk3]
    by_cases c1 : k < i
    · have := h2 i c1 (by omega); omega
    · by_cases c2 : i < k
      · have := lb_next k hk3 i hi c2; omega
      · omega
/-- A copy's parts, and that the document tells them. -/
theorem doc_parts {t : Tk} (hcp : (∃ j u, j < 30 ∧ u < 2 ^ de j ∧ t = ⟨258, ((db j + u : Nat) : Int), 0⟩) ∨ (∃ i v j u, i < 28 ∧ v < 2 ^ le4 i ∧ lb i + v ≤ 257 ∧ j < 30 ∧ u < 2 ^ de j ∧ t = ⟨((lb i + v : Nat) : Int), ((db j + u : Nat) : Int), 0⟩)) :
    ∃ (n d sy X v j u : Nat), t = ⟨(n : Int), (d : Int), 0⟩ ∧ 1 ≤ n ∧ 257 ≤ sy ∧ sy < 286 ∧ X ≤ 5 ∧ v < 2 ^ X ∧ j < 30 ∧ de j ≤ 13 ∧ u < 2 ^ de j ∧ litSy t = sy ∧ distSy t = j ∧ (∀ lit dist, tokWd lit dist t = [wordZ lit (sy : Int), (v, X), wordZ dist (j : Int), (u, de j)]) ∧
    (∀ W, Calls Tryz.prog 27 #[.int .i64 (n : Int)] W fun e w' => e = .returned (.tuple #[.int .i64 (sy : Int), .int .i64 (X : Int), .int .u32 (v : Int)]) ∧ Kept NoB W w') ∧
    (∀ W, Calls Tryz.prog 28 #[.int .i64 (d : Int)] W fun e w' => e = .returned (.tuple #[.int .i64 (j : Int), .int .i64 ((de j : Nat) : Int), .int .u32 (u : Int)]) ∧ Kept NoB W w') := by
  have hdist : ∀ {j u : Nat}, j < 30 → u < 2 ^ de j → ∀ W, Calls Tryz.prog 28 #[.int .i64 ((db j + u : Nat) : Int)] W fun e w' => e = .returned (.tuple #[.int .i64 (j : Int), .int .i64 ((de j : Nat) : Int), .int .u32 (u : Int)]) ∧ Kept NoB W w' := by
    intro j u hj hu W
    have ht := db_top j hj
    refine (rdistSym_any (db j + u) W (by omega)).mono ?_
    rintro e w' ⟨k, hk, h1, h2, rfl, hk2⟩
    have e1 : k = j := by
      by_cases c1 : k < j
      · have := h2 j c1 (by omega); omega
      · by_cases c2 : j < k
        · have := db_next k (by omega) j hj c2; omega
        · omega
    subst e1
    exact ⟨by rw [show db k + u - db k = u by omega], hk2⟩
  rcases hcp with ⟨j, u, hj, hu, rfl⟩ | ⟨i, v, j, u, hi, hv, hlv, hj, hu, rfl⟩
  · obtain ⟨e1, e2, e3, e4, e5⟩ := sy_long hj hu
    have ht := db_top j hj
    refine ⟨258, db j + u, 285, 0, 0, j, u, rfl, by decide, by decide, by decide, by decide, by decide, hj, ht.2.2, hu, e1, e4, ?_, fun W => ?_, hdist hj hu⟩
    · intro lit dist
      unfold tokWd
      rw [if_neg (show ¬ (258 : Int) = 0 by decide), e1, e2, e3, e4, e5]
    · refine (rlenSym_any 258 W (by decide)).mono ?_
      rintro e w' ⟨k, hk, h1, h2, rfl, hk2⟩
      have e1 : k = 28 := by
        by_cases hk28 : k < 28
        · have := h2 28 hk28 (by omega)
          have h28 : bX 28 = 258 := by decide
          omega
        · omega
      subst e1
      exact ⟨rfl, hk2⟩
  · have h3 := lb_top i hi
    have ht := db_top j hj
    obtain ⟨e1, e2, e3, e4, e5⟩ := sy_copy hi hv hlv hj hu
    refine ⟨lb i + v, db j + u, 257 + i, le4 i, v, j, u, rfl, by omega, by omega, by omega, h3.2.2.2, hv, hj, ht.2.2, hu, e1, e4, ?_, fun W => ?_, hdist hj hu⟩
    · intro lit dist
      unfold tokWd
      rw [if_neg (by simp only; omega), e1, e2, e3, e4, e5]
    · refine (rlenSym_any (lb i + v) W (by omega)).mono ?_
      rintro e w' ⟨k, hk, h1, h2, rfl, hk2⟩
      have e1 : k = i := rlen_det hi hv rfl hlv hk h1 h2
      subst e1
      have hbk : bX k = lb k := by unfold bX; rw [if_pos hi]
      have hek : eX k = le4 k := by unfold eX; rw [if_pos hi]
      exact ⟨by rw [hbk, hek, show lb k + v - lb k = v by omega], hk2⟩
end Go.Proofs.YtdpegahcgaicnaaGreatDoor
