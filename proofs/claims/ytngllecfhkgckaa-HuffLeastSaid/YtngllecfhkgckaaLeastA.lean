/-
  The document's LensOk: which weights and limits there are lengths of.
-/
import Derived.Test.YtngllecfhkgckaaLawHuffCosts
import Derived.Test.YtngllecfhkgckaaLensB
namespace Go.Proofs.Ytngllecfhkgckaa
open Go.RowKit
set_option linter.unusedVariables false
set_option linter.unusedSimpArgs false

def OkR (ws : List Int) (limit : Int) (w : World) (e : Ending) (w' : World) : Prop := ∃ b : Bool, e = .returned (.bool b) ∧ (b = true ↔ LensOkP ws limit) ∧ Kept NoB w w'

set_option maxRecDepth 20000 in
set_option maxHeartbeats 1000000 in
theorem lensOk_any (a : Option Addr) (c B : Nat) (ws : List Int) (limit : Int) (w : World) (hr : RdI w B a ws) :
    Calls Try.prog 11 #[.slice a ws.length c, .int .i64 limit] w fun e w' => OkR ws limit w e w' := by
  have HR := Lib.hid hr
  obtain ⟨n, hn⟩ : ∃ n, n = ws.length := ⟨_, rfl⟩
  have HN := Lib.hid hn
  rw [← hn]
  clear hr hn
  have hcs : (320 < n ∨ (¬ 320 < n ∧ limit < 1) ∨ (¬ 320 < n ∧ ¬ limit < 1 ∧ 15 < limit)) ∨ (¬ 320 < n ∧ ¬ limit < 1 ∧ ¬ 15 < limit) := by omega
  rcases hcs with h | ⟨h1, h2, h3⟩
  · have hno : ¬ LensOkP ws limit := fun hok => by
      have h1 := hok.len; have h2 := hok.lim; rw [← HN.out] at h1; omega
    have HNo := Lib.hid hno
    clear hno
    rcases h with h | ⟨h, h1⟩ | ⟨h, h1, h2⟩
    all_goals
      go_enter Try.func11, Try.ntmps11
      go_wp2
      go_ret
      exact ⟨false, rfl, ⟨fun h => (by cases h), fun h => (HNo.out h).elim⟩, Kept.refl _ _⟩
  · obtain ⟨k, rfl⟩ : ∃ k : Nat, limit = (k : Int) := ⟨limit.toNat, by omega⟩
    have hw := wrap_pow15 k (by omega)
    obtain ⟨M, hM⟩ : ∃ M, M = 2 ^ k := ⟨_, rfl⟩
    rw [← hM] at hw
    have HM := Lib.hid hM
    clear hM
    go_enter Try.func11, Try.ntmps11
    go_wp2
    go_loopw [6, 5] (fun v6 v5 wr => ∃ (j q : Nat), v6 = .int .i64 (j : Int) ∧ v5 = .int .i64 (q : Int) ∧ j ≤ n ∧ q ≤ j ∧ Hid (q + (leavesL j (ws.drop j)).length = (leavesL 0 ws).length) ∧ Hid (∀ t, t < j → 0 ≤ ws.getD t 0 ∧ ws.getD t 0 ≤ 1000000) ∧ w = wr) (fun v6 _ _ => n - (intOf v6).toNat)
    case atStart => exact ⟨0, 0, rfl, rfl, by omega, by omega, Lib.hid (by simp), Lib.hid (fun t ht => by omega), rfl⟩
    case round =>
      clear hw
      obtain ⟨j, q, rfl, rfl, hj, hq, HL, HX, rfl⟩ := hrel
      by_cases hlt : (j : Int) < n
      · obtain ⟨g, off, rfl, _, hc⟩ := HR.out j (by have := HN.out; omega)
        have hl := HL.out
        rw [leavesL_step ws j (by have := HN.out; omega)] at hl
        obtain ⟨z, hz⟩ : ∃ z, z = ws.getD j 0 := ⟨_, rfl⟩
        rw [← hz] at hc hl
        have HZ := Lib.hid hz
        clear hz
        have hcs : (z < 0 ∨ (¬ z < 0 ∧ 1000000 < z)) ∨ (¬ z < 0 ∧ ¬ 1000000 < z) := by omega
        rcases hcs with hb | ⟨g1, g2⟩
        · have hno : ¬ LensOkP ws (k : Int) := fun hok => by
            have := hok.small.getD j (by have := HN.out; omega)
            rw [← HZ.out] at this
            omega
          have HNo := Lib.hid hno
          clear hno hl
          rcases hb with g1 | ⟨g1, g2⟩
          all_goals
            go_wp2
            go_ret
            exact ⟨false, rfl, ⟨fun h => (by cases h), fun h => (HNo.out h).elim⟩, Kept.refl _ _⟩
        · have hx2 : ∀ t, t < j + 1 → 0 ≤ ws.getD t 0 ∧ ws.getD t 0 ≤ 1000000 := by
            intro t ht
            by_cases e : t = j
            · subst e; rw [← HZ.out]; omega
            · exact HX.out t (by omega)
          have HX2 := Lib.hid hx2
          clear hx2
          by_cases hz0 : 0 < z
          · rw [if_pos hz0] at hl
            have HL2 := Lib.hid hl
            clear hl
            go_wp2
            go_roundw
            case rel => exact ⟨j + 1, q + 1, by go_num, by go_num, by omega, by omega, Lib.hid (by have := HL2.out; simp at this; omega), HX2, by first | trivial | rfl⟩
            case measure => simp [intOf]; omega
          · rw [if_neg hz0] at hl
            have HL2 := Lib.hid hl
            clear hl
            go_wp2
            go_roundw
            case rel => exact ⟨j + 1, q, by go_num, rfl, by omega, by omega, HL2, HX2, by first | trivial | rfl⟩
            case measure => simp [intOf]; omega
      · have hl := HL.out
        rw [leavesL_end ws j (by have := HN.out; omega)] at hl
        have HL2 := Lib.hid hl
        clear hl
        have hw := wrap_pow15 k (by omega)
        rw [← HM.out] at hw
        go_wp2
        go_ret
        refine ⟨decide (q ≤ M), by first | rfl | simp, ?_, Kept.refl _ _⟩
        rw [decide_eq_true_iff]
        have e1 : q = (leavesL 0 ws).length := by have := HL2.out; simpa using this
        rw [e1, HM.out]
        constructor
        · intro h
          refine ⟨by have := HN.out; omega, by omega, ?_, by simpa using h⟩
          intro z hz
          obtain ⟨t, ht, rfl⟩ := List.mem_iff_getElem.1 hz
          have := HX.out t (by have := HN.out; omega)
          simpa [List.getD, ht] using this
        · intro h
          have := h.few
          simpa using this
end Go.Proofs.Ytngllecfhkgckaa
