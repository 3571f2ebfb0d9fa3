/-
  num: Read.
-/
import Derived.Test.YtnhfbpikfkncpaaNumD
namespace Go.Proofs.Ytnhfbpikfkncpaa
open Go.RowKit
set_option linter.unusedVariables false
set_option linter.unusedSimpArgs false

/-- What a field reads as. -/
def readS (bs : List Int) : Int × Bool :=
  if bs.length < 1 ∨ 12 < bs.length then (0, false) else if bs.getD 0 0 = 128 then rdW (bs.drop 1) 0 else if bs.getD 0 0 = 255 then rdW (bs.drop 1) (-1) else rdO bs
theorem readS_out {bs : List Int} (h : bs.length < 1 ∨ 12 < bs.length) : readS bs = (0, false) := by unfold readS; rw [if_pos h]
theorem readS_in {bs : List Int} (h : ¬ (bs.length < 1 ∨ 12 < bs.length)) : readS bs = if bs.getD 0 0 = 128 then rdW (bs.drop 1) 0 else if bs.getD 0 0 = 255 then rdW (bs.drop 1) (-1) else rdO bs := by unfold readS; rw [if_neg h]

set_option maxHeartbeats 2000000 in
theorem read_any (ao : Option Addr) (cap len : Nat) (bs : List Int) (w : World) (hr : Reads w ao bs) (hb : AllB bs) (hlen : bs.length = len) (hlc : len ≤ cap) (hcm : cap ≤ 9223372036854775807) :
    Calls Try.prog 25 #[.slice ao len cap] w fun e w' => e = .returned (.tuple #[.int .i64 (readS bs).1, .bool (readS bs).2]) ∧ w = w' := by
  have HRd := Lib.hid hr; have HB := Lib.hid hb; have HLen := Lib.hid hlen
  clear hr hb hlen
  by_cases h1 : len < 1
  · have hs := readS_out (bs := bs) (.inl (by have := HLen.out; omega))
    have HS := Lib.hid hs
    have hl0 : len = 0 := by omega
    clear hs h1
    subst hl0
    go_enter Try.func25, Try.ntmps25
    go_wp2
    go_ret2
    exact ⟨by rw [HS.out]; rfl, rfl⟩
  · by_cases h12 : 12 < len
    · have hs := readS_out (bs := bs) (.inr (by have := HLen.out; omega))
      have HS := Lib.hid hs
      clear hs
      go_enter Try.func25, Try.ntmps25
      go_wp2
      go_ret2
      exact ⟨by rw [HS.out]; rfl, rfl⟩
    · have hs := readS_in (bs := bs) (by have := HLen.out; omega)
      obtain ⟨b, off, rfl, _, hc⟩ := HRd.out.at (by have := HLen.out; omega)
      have hc0 := hc 0 (by have := HLen.out; omega)
      rw [Nat.add_zero] at hc0
      have hz := AllB.getD HB.out 0
      have hdr := reads_drop 1 HRd.out
      rw [addr_add] at hdr
      have HDr := Lib.hid hdr
      have hl1 : (bs.drop 1).length = len - 1 := by rw [List.length_drop, HLen.out]
      have HL1 := Lib.hid hl1
      have HB1 : Hid (AllB (bs.drop 1)) := HB.out.drop 1
      generalize bs.getD 0 0 = z at hc0 hz hs
      have HW : Hid (∀ (n0 : Int) (W : World), W = w → (n0 = 0 ∨ n0 = -1) → ∃ ao' cap' len', (cap = 1 → ao' = some ⟨b, off, none⟩ ∧ cap' = 0 ∧ len' = 0) ∧ (¬ cap = 1 → ao' = some ⟨b, off + 1, none⟩ ∧ cap' = cap - 1 ∧ len' = len - 1) ∧
          Calls Try.prog 38 #[.slice ao' len' cap', .int .i64 n0] W fun e w' => e = .returned (.tuple #[.int .i64 (rdW (bs.drop 1) n0).1, .bool (rdW (bs.drop 1) n0).2]) ∧ W = w') := fun n0 W hW hn0 => by
        subst hW
        by_cases hc1 : cap = 1
        · have e : bs.drop 1 = [] := List.eq_nil_of_length_eq_zero (by rw [HL1.out]; omega)
          refine ⟨some ⟨b, off, none⟩, 0, 0, fun _ => ⟨rfl, rfl, rfl⟩, fun h => absurd hc1 h, ?_⟩
          rw [e]
          exact readWide_any _ 0 0 [] n0 W reads_empty (by intro b hb; cases hb) rfl (by omega) hn0
        · exact ⟨some ⟨b, off + 1, none⟩, cap - 1, len - 1, fun h => absurd h hc1, fun _ => ⟨rfl, rfl, rfl⟩, readWide_any _ _ _ _ n0 W HDr.out HB1.out HL1.out (by omega) hn0⟩
      have HO := Lib.hid (readOctal_any (some ⟨b, off, none⟩) cap len bs w HRd.out HB.out HLen.out (by omega) hlc hcm)
      clear hc hdr hl1
      by_cases h128 : z = 128
      · subst h128
        rw [if_pos rfl] at hs
        obtain ⟨ao', cap', len', e1, e2, hcall⟩ := HW.out 0 w rfl (.inl rfl)
        have HC := Lib.hid hcall; have HS := Lib.hid hs
        clear hcall hs
        generalize rdW (bs.drop 1) 0 = q at HC HS
        by_cases hc1 : cap = 1
        · obtain ⟨rfl, rfl, rfl⟩ := e1 hc1
          subst hc1
          have hln : len = 1 := by omega
          subst hln
          clear e1 e2
          go_enter Try.func25, Try.ntmps25
          go_wp2_with fail
          refine HC.out.mono ?_
          rintro e w1 ⟨rfl, rfl⟩
          go_wp2
          go_ret2
          exact ⟨by rw [HS.out]; rfl, rfl⟩
        · obtain ⟨rfl, rfl, rfl⟩ := e2 hc1
          clear e1 e2
          go_enter Try.func25, Try.ntmps25
          go_wp2_with fail
          refine HC.out.mono ?_
          rintro e w1 ⟨rfl, rfl⟩
          go_wp2
          go_ret2
          exact ⟨by rw [HS.out]; rfl, rfl⟩
      · rw [if_neg h128] at hs
        by_cases h255 : z = 255
        · subst h255
          rw [if_pos rfl] at hs
          obtain ⟨ao', cap', len', e1, e2, hcall⟩ := HW.out (-1) w rfl (.inr rfl)
          have HC := Lib.hid hcall; have HS := Lib.hid hs
          clear hcall hs h128
          generalize rdW (bs.drop 1) (-1) = q at HC HS
          by_cases hc1 : cap = 1
          · obtain ⟨rfl, rfl, rfl⟩ := e1 hc1
            subst hc1
            have hln : len = 1 := by omega
            subst hln
            clear e1 e2
            go_enter Try.func25, Try.ntmps25
            go_wp2_with fail
            refine HC.out.mono ?_
            rintro e w1 ⟨rfl, rfl⟩
            go_wp2
            go_ret2
            exact ⟨by rw [HS.out]; rfl, rfl⟩
          · obtain ⟨rfl, rfl, rfl⟩ := e2 hc1
            clear e1 e2
            go_enter Try.func25, Try.ntmps25
            go_wp2_with fail
            refine HC.out.mono ?_
            rintro e w1 ⟨rfl, rfl⟩
            go_wp2
            go_ret2
            exact ⟨by rw [HS.out]; rfl, rfl⟩
        · rw [if_neg h255] at hs
          have HS := Lib.hid hs
          have g1 : (z == 128) = false := by simp; exact h128
          have g2 : (z == 255) = false := by simp; exact h255
          clear hs h128 h255
          generalize rdO bs = q at HO HS
          go_enter Try.func25, Try.ntmps25
          go_wp2_with fail
          refine HO.out.mono ?_
          rintro e w1 ⟨rfl, rfl⟩
          go_wp2
          go_ret2
          exact ⟨by rw [HS.out]; rfl, rfl⟩
end Go.Proofs.Ytnhfbpikfkncpaa
