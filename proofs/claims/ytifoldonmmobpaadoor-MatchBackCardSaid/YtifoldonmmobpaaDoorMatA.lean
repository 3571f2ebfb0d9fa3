/-
  match: word, TrailingZeros64, shared.
-/
import Derived.Test.YtifoldonmmobpaaDoorMatP
import Derived.Test.YtifoldonmmobpaaDoorKit
import Derived.Lib.EndianBits
import Derived.Laws.Bits64b
import Derived.BigQuiet
import Derived.Deep.QuietTactic
import Derived.Deep.RegionHeld3
import Derived.Lib.LaidTab
namespace Go.Proofs.YtifoldonmmobpaaDoor
open Go.RowKit
set_option linter.unusedVariables false
set_option linter.unusedSimpArgs false

/-- Bytes from a place on are read. -/
def RdB (w : World) (g o : Nat) (L : List UInt8) (p n : Nat) : Prop := ∀ i, i < n → w.cell? ⟨g, o + i, none⟩ = some (.int .u8 ((L.getD (p + i) 0).toNat : Int))
theorem RdB.kept {w w' : World} {g o p n : Nat} {L : List UInt8} (h : RdB w g o L p n) (hk : Kept NoB w w') : RdB w' g o L p n := fun i hi => hk.cell (h i hi)
theorem RdB.drop {w : World} {g o p n : Nat} {L : List UInt8} (h : RdB w g o L p n) (k : Nat) : RdB w g (o + k) L (p + k) (n - k) := fun i hi => by
  have := h (k + i) (by omega)
  rw [show o + k + i = o + (k + i) by omega, show p + k + i = p + (k + i) by omega]
  exact this
theorem le8 (b0 b1 b2 b3 b4 b5 b6 b7 : UInt8) : ((Lib.leNat [b0, b1, b2, b3, b4, b5, b6, b7] : Nat) : Int) = (b0.toNat : Int) + (b1.toNat : Int) * 256 + (b2.toNat : Int) * 65536 + (b3.toNat : Int) * 16777216 + (b4.toNat : Int) * 4294967296 + (b5.toNat : Int) * 1099511627776 + (b6.toNat : Int) * 281474976710656 + (b7.toNat : Int) * 72057594037927936 := by
  simp only [Lib.leNat]
  omega
theorem le3 (b0 b1 b2 : UInt8) : ((Lib.leNat [b0, b1, b2] : Nat) : Int) = (b0.toNat : Int) + (b1.toNat : Int) * 256 + (b2.toNat : Int) * 65536 := by
  simp only [Lib.leNat]
  omega
theorem key8 (L : List UInt8) (p : Nat) (h : p + 8 ≤ L.length) : ((keyN L 8 p : Nat) : Int) = ((L.getD p 0).toNat : Int) + ((L.getD (p + 1) 0).toNat : Int) * 256 + ((L.getD (p + 2) 0).toNat : Int) * 65536 + ((L.getD (p + 3) 0).toNat : Int) * 16777216 + ((L.getD (p + 4) 0).toNat : Int) * 4294967296 + ((L.getD (p + 5) 0).toNat : Int) * 1099511627776 + ((L.getD (p + 6) 0).toNat : Int) * 281474976710656 + ((L.getD (p + 7) 0).toNat : Int) * 72057594037927936 := by
  have e : (L.drop p).take 8 = [L.getD p 0, L.getD (p + 1) 0, L.getD (p + 2) 0, L.getD (p + 3) 0, L.getD (p + 4) 0, L.getD (p + 5) 0, L.getD (p + 6) 0, L.getD (p + 7) 0] := by
    apply List.ext_getElem?
    intro j
    have hg : ∀ i, i < 8 → ((L.drop p).take 8)[i]? = some (L.getD (p + i) 0) := fun i hi => by
      rw [List.getElem?_take_of_lt hi, List.getElem?_drop, List.getElem?_eq_getElem (by omega)]
      simp [List.getD, show p + i < L.length by omega]
    match j with
    | 0 => exact hg 0 (by omega)
    | 1 => exact hg 1 (by omega)
    | 2 => exact hg 2 (by omega)
    | 3 => exact hg 3 (by omega)
    | 4 => exact hg 4 (by omega)
    | 5 => exact hg 5 (by omega)
    | 6 => exact hg 6 (by omega)
    | 7 => exact hg 7 (by omega)
    | j + 8 => rw [List.getElem?_eq_none (by simp; omega), List.getElem?_eq_none (by simp)]
  unfold keyN
  rw [e]
  exact le8 _ _ _ _ _ _ _ _
theorem key3 (L : List UInt8) (p : Nat) (h : p + 3 ≤ L.length) : ((keyN L 3 p : Nat) : Int) = ((L.getD p 0).toNat : Int) + ((L.getD (p + 1) 0).toNat : Int) * 256 + ((L.getD (p + 2) 0).toNat : Int) * 65536 := by
  have e : (L.drop p).take 3 = [L.getD p 0, L.getD (p + 1) 0, L.getD (p + 2) 0] := by
    apply List.ext_getElem?
    intro j
    have hg : ∀ i, i < 3 → ((L.drop p).take 3)[i]? = some (L.getD (p + i) 0) := fun i hi => by
      rw [List.getElem?_take_of_lt hi, List.getElem?_drop, List.getElem?_eq_getElem (by omega)]
      simp [List.getD, show p + i < L.length by omega]
    match j with
    | 0 => exact hg 0 (by omega)
    | 1 => exact hg 1 (by omega)
    | 2 => exact hg 2 (by omega)
    | j + 3 => rw [List.getElem?_eq_none (by simp; omega), List.getElem?_eq_none (by simp)]
  unfold keyN
  rw [e]
  exact le3 _ _ _
set_option maxRecDepth 100000 in
set_option maxHeartbeats 4000000 in
theorem word_any (g o n c p : Nat) (L : List UInt8) (w : World) (hr : RdB w g o L p n) (hn : 8 ≤ n) (hnm : n ≤ 9223372036854775807) (hp : p + 8 ≤ L.length) :
    Calls Tryd.prog 28 #[.slice (some ⟨g, o, none⟩) n c] w fun e w' => e = .returned (.int .u64 (keyN L 8 p : Int)) ∧ Kept NoB w w' := by
  have hk := key8 L p hp
  have c0 := hr 0 (by omega); have c1 := hr 1 (by omega); have c2 := hr 2 (by omega); have c3 := hr 3 (by omega)
  have c4 := hr 4 (by omega); have c5 := hr 5 (by omega); have c6 := hr 6 (by omega); have c7 := hr 7 (by omega)
  rw [Nat.add_zero, Nat.add_zero] at c0
  obtain ⟨K, hK⟩ : ∃ K : Int, K = (keyN L 8 p : Int) := ⟨_, rfl⟩
  rw [← hK] at hk ⊢
  have hb : ∀ i, (L.getD i 0).toNat < 256 := fun i => (L.getD i 0).toNat_lt
  have q0 := hb p; have q1 := hb (p + 1); have q2 := hb (p + 2); have q3 := hb (p + 3); have q4 := hb (p + 4); have q5 := hb (p + 5); have q6 := hb (p + 6); have q7 := hb (p + 7)
  generalize (L.getD p 0).toNat = b0 at *
  generalize (L.getD (p + 1) 0).toNat = b1 at *
  generalize (L.getD (p + 2) 0).toNat = b2 at *
  generalize (L.getD (p + 3) 0).toNat = b3 at *
  generalize (L.getD (p + 4) 0).toNat = b4 at *
  generalize (L.getD (p + 5) 0).toNat = b5 at *
  generalize (L.getD (p + 6) 0).toNat = b6 at *
  generalize (L.getD (p + 7) 0).toNat = b7 at *
  have HK := Lib.hid hk
  have r1 : (1 : Int) < (n : Int) := by omega
  have r2 : (2 : Int) < (n : Int) := by omega
  have r3 : (3 : Int) < (n : Int) := by omega
  have r4 : (4 : Int) < (n : Int) := by omega
  have r5 : (5 : Int) < (n : Int) := by omega
  have r6 : (6 : Int) < (n : Int) := by omega
  have r7 : (7 : Int) < (n : Int) := by omega
  have r0 : 0 < n := by omega
  clear hk hK hb hr hp
  go_enter Tryd.func28, Tryd.ntmps28
  go_wp2
  go_quiet (fail)
  go_wp2
  go_ret
  refine ⟨?_, (Kept.refl NoB w).drewN _⟩
  simp (disch := omega) only [u64_wrap_id, u64_or8, u64_or16, u64_or24, u64_or32, u64_or40, u64_or48, u64_or56]
  rw [HK.out]
  rfl
end Go.Proofs.YtifoldonmmobpaaDoor
