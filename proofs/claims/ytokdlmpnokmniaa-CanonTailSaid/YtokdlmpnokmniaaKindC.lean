/-
  The document's Kind and Codes.
-/
import Derived.Test.YtokdlmpnokmniaaKindB
namespace Go.Proofs.Ytokdlmpnokmniaa
open Go.RowKit
set_option linter.unusedVariables false
set_option linter.unusedSimpArgs false

/-- What is known of the lone code, when the first i lengths were looked at. -/
def OneP (ls : List Int) (i : Nat) (one : Bool) : Prop := i = (ls.take i).count 0 + 1 → (one = true ↔ (ls.take i).count 1 = 1)
theorem one_sum : ∀ ls : List Int, ls.count 0 + ls.count 1 ≤ ls.length
  | [] => by simp
  | z :: r => by
    have := one_sum r
    rw [List.count_cons, List.count_cons, List.length_cons]
    by_cases h0 : z = 0
    · subst h0; simp; omega
    · by_cases h1 : z = 1
      · subst h1; simp; omega
      · simp [h0, h1]; omega
theorem oneP_zero {ls : List Int} {i : Nat} {one : Bool} (h : OneP ls i one) (hi : i < ls.length) (hz : ls.getD i 0 = 0) : OneP ls (i + 1) one := by
  unfold OneP at *
  rw [take_snoc ls i hi, hz, List.count_append, List.count_append]
  simp only [List.count_singleton]
  intro e
  have e2 : i = (ls.take i).count 0 + 1 := by simp at e; omega
  rw [h e2]
  simp
theorem oneP_pos {ls : List Int} {i : Nat} {z : Int} (hi : i < ls.length) (hz : ls.getD i 0 = z) (h0 : 0 < z) : OneP ls (i + 1) (z == 1) := by
  unfold OneP
  rw [take_snoc ls i hi, hz, List.count_append, List.count_append]
  have hs := one_sum (ls.take i)
  rw [List.length_take] at hs
  have hz0 : ¬ z = 0 := by omega
  simp only [List.count_singleton]
  intro e
  have e2 : (z == 0) = false := by simpa using hz0
  rw [e2] at e
  simp at e
  have hc1 : (ls.take i).count 1 = 0 := by omega
  rw [hc1]
  by_cases h1 : z = 1
  · subst h1; simp
  · have e3 : (z == 1) = false := by simpa using h1
    rw [e3]; simp

theorem rkind_long (a : Option Addr) (c n : Nat) (w : World) (hl : 320 < n) : Calls Try.prog 17 #[.slice a n c] w fun e w' => e = .returned (.int .i64 0) ∧ Kept NoB w w' := by
  go_enter Try.func17, Try.ntmps17
  go_wp2
  go_ret
  exact ⟨rfl, Kept.refl _ _⟩
theorem kindA_bad {ls : List Int} (h : ¬ MayL ls) : kindA ls = 0 := by unfold kindA; rw [if_neg h]
theorem kindA_may {ls : List Int} (h : MayL ls) : kindA ls = if ls.length = ls.count 0 then 1 else if ls.length = ls.count 0 + 1 ∧ ls.count 1 = 1 then 2 else if 32768 < kraftL ls then 4 else if kraftL ls < 32768 then 5 else 3 := by unfold kindA; rw [if_pos h]; rfl

set_option maxRecDepth 20000 in
set_option maxHeartbeats 2000000 in
theorem rkind_any (a : Option Addr) (c B : Nat) (ls : List Int) (w : World) (hr : RdI w B a ls) (hall : AllI ls) (hl9 : ls.length ≤ 1000000) :
    Calls Try.prog 17 #[.slice a ls.length c] w fun e w' => e = .returned (.int .i64 (kindA ls)) ∧ Kept NoB w w' := by
  by_cases hl : 320 < ls.length
  · rw [kindA_bad (fun h => by have := h.len; omega)]
    exact rkind_long a c _ w hl
  · have HKr := Lib.hid (fun W (hk : Kept NoB w W) => rkraft_calls a c B ls W (hr.kept hk (fun _ _ h => h)) hall (by omega))
    have HR := Lib.hid hr; have HAll := Lib.hid hall
    obtain ⟨KA, hKA⟩ : ∃ KA, KA = kindA ls := ⟨_, rfl⟩
    have HKA := Lib.hid hKA
    rw [← hKA]
    obtain ⟨n, hn⟩ : ∃ n, n = ls.length := ⟨_, rfl⟩
    have HN := Lib.hid hn
    rw [← hn] at hl HKr ⊢
    clear hr hall hn hl9 hKA
    go_enter Try.func17, Try.ntmps17
    go_wp2
    go_loopw [5, 3, 4] (fun v5 v3 v4 wr => ∃ (i u : Nat) (one : Bool), v5 = .int .i64 (i : Int) ∧ v3 = .int .i64 (u : Int) ∧ v4 = .bool one ∧ i ≤ n ∧ u ≤ i ∧ Hid (u + (ls.take i).count 0 = i) ∧ Hid (OneP ls i one) ∧ Hid (Small 15 (ls.take i)) ∧ w = wr) (fun v5 _ _ _ => n - (intOf v5).toNat)
    case atStart => exact ⟨0, 0, false, rfl, rfl, rfl, by omega, by omega, Lib.hid (by simp), Lib.hid (fun h => by simp at h), Lib.hid (fun z hz => by simp at hz), rfl⟩
    case round =>
      obtain ⟨i, u, one, rfl, rfl, rfl, hin, hui, HU, HO, HSm, rfl⟩ := hrel
      by_cases hlt : (i : Int) < n
      · have hil : i < ls.length := by have := HN.out; omega
        obtain ⟨g, off, rfl, _, hc⟩ := HR.out i hil
        have hai := HAll.out (ls.getD i 0) (get_mem' hil)
        obtain ⟨z, hz⟩ : ∃ z, z = ls.getD i 0 := ⟨_, rfl⟩
        rw [← hz] at hc hai
        have HZ := Lib.hid hz
        clear hz
        by_cases hb : ¬ (0 ≤ z ∧ z ≤ 15)
        · have hbad : KA = 0 := by
            rw [HKA.out]
            exact kindA_bad (fun h => hb (by have := h.small _ (get_mem' hil); rw [← HZ.out] at this; exact this))
          have HBad := Lib.hid hbad
          have hbb : z < 0 ∨ (¬ z < 0 ∧ 15 < z) := by omega
          clear hb hbad
          rcases hbb with h1 | ⟨h1, h2⟩
          · go_wp2
            go_ret
            exact ⟨by rw [HBad.out]; rfl, Kept.refl _ _⟩
          · go_wp2
            go_ret
            exact ⟨by rw [HBad.out]; rfl, Kept.refl _ _⟩
        · have hb2 := Decidable.not_not.1 hb
          have hsm2 : Small 15 (ls.take (i + 1)) := by
            rw [take_snoc ls i hil, ← HZ.out]
            intro y hy
            rcases List.mem_append.1 hy with h | h
            · exact HSm.out y h
            · rw [List.mem_singleton.1 h]; exact hb2
          have HSm2 := Lib.hid hsm2
          have h1 : ¬ z < 0 := by omega
          have h2 : ¬ 15 < z := by omega
          by_cases h0 : 0 < z
          · have hu2 : u + 1 + (ls.take (i + 1)).count 0 = i + 1 := by
              rw [take_snoc ls i hil, ← HZ.out, List.count_append]
              have : (z == 0) = false := by simp; omega
              simp only [List.count_singleton, this]
              have := HU.out
              simp; omega
            have HU2 := Lib.hid hu2; have HO2 := Lib.hid (oneP_pos hil HZ.out.symm h0)
            clear hsm2 hu2 hb hb2
            go_wp2
            go_roundw
            case rel => exact ⟨i + 1, u + 1, z == 1, by go_num, by go_num, rfl, by omega, by omega, HU2, HO2, HSm2, by first | trivial | rfl⟩
            case measure => simp [intOf]; omega
          · have hz0 : ls.getD i 0 = 0 := by rw [← HZ.out]; omega
            have hu2 : u + (ls.take (i + 1)).count 0 = i + 1 := by
              rw [take_snoc ls i hil, hz0, List.count_append]
              have := HU.out
              simp; omega
            have HU2 := Lib.hid hu2; have HO2 := Lib.hid (oneP_zero HO.out hil hz0)
            clear hsm2 hu2 hb hb2 hz0
            go_wp2
            go_roundw
            case rel => exact ⟨i + 1, u, one, by go_num, rfl, rfl, by omega, by omega, HU2, HO2, HSm2, by first | trivial | rfl⟩
            case measure => simp [intOf]; omega
      · have hi2 : i = n := by omega
        subst hi2
        have htk : ls.take i = ls := List.take_of_length_le (by have := HN.out; omega)
        have hsm := HSm.out; have ho := HO.out; have hu := HU.out
        rw [htk] at hsm hu
        unfold OneP at ho
        rw [htk] at ho
        have hk := HKA.out
        rw [kindA_may ⟨by have := HN.out; omega, hsm⟩, ← HN.out] at hk
        obtain ⟨kr, hkr⟩ : ∃ kr, kr = kraftL ls := ⟨_, rfl⟩
        have HKr2 := HKr
        rw [← hkr] at hk HKr2
        obtain ⟨c0, hc0⟩ : ∃ x, x = ls.count 0 := ⟨_, rfl⟩
        rw [← hc0] at hk hu ho
        clear HKr hkr hc0 htk hsm HSm HO HU HKA
        by_cases h0 : u = 0
        · rw [if_pos (by omega)] at hk
          have HKf := Lib.hid hk
          have g1 : ((u : Int) == 0) = true := by simp; omega
          clear hk ho hu
          go_wp2_with fail
          refine (HKr2.out _ (Kept.refl _ _)).mono ?_
          rintro e w1 ⟨rfl, hk⟩
          have HK := Lib.hid hk
          clear hk
          go_wp2
          go_ret
          exact ⟨by rw [HKf.out]; rfl, HK.out⟩
        · have g1 : ((u : Int) == 0) = false := by simp; omega
          rw [if_neg (by omega)] at hk
          by_cases hone : u = 1 ∧ one = true
          · obtain ⟨hu1, rfl⟩ := hone
            rw [if_pos ⟨by omega, (ho (by omega)).1 rfl⟩] at hk
            have HKf := Lib.hid hk
            have g2 : ((u : Int) == 1) = true := by simp; omega
            clear hk ho hu hu1
            go_wp2_with fail
            refine (HKr2.out _ (Kept.refl _ _)).mono ?_
            rintro e w1 ⟨rfl, hk⟩
            have HK := Lib.hid hk
            clear hk
            go_wp2
            go_ret
            exact ⟨by rw [HKf.out]; rfl, HK.out⟩
          · rw [if_neg (fun h => hone ⟨by omega, (ho (by omega)).2 h.2⟩)] at hk
            have g2 : ((u : Int) == 1) = false ∨ (((u : Int) == 1) = true ∧ one = false) := by
              by_cases h : u = 1
              · exact .inr ⟨by simp; omega, by
                  cases one with
                  | true => exact absurd ⟨h, rfl⟩ hone
                  | false => rfl⟩
              · exact .inl (by simp; omega)
            have hks : (kr == 32768) = true ∧ KA = 3 ∨ (kr == 32768) = false ∧ 32768 < kr ∧ KA = 4 ∨ (kr == 32768) = false ∧ ¬ 32768 < kr ∧ KA = 5 := by
              by_cases h1 : 32768 < kr
              · rw [if_pos h1] at hk
                exact .inr (.inl ⟨by simp; omega, h1, hk⟩)
              · rw [if_neg h1] at hk
                by_cases h2 : kr < 32768
                · rw [if_pos h2] at hk
                  exact .inr (.inr ⟨by simp; omega, h1, hk⟩)
                · rw [if_neg h2] at hk
                  exact .inl ⟨by simp; omega, hk⟩
            clear hk ho hu hone
            rcases hks with ⟨k1, k2⟩ | ⟨k1, k3, k2⟩ | ⟨k1, k3, k2⟩
            all_goals
              have HKf := Lib.hid k2
              clear k2
              rcases g2 with g2 | ⟨g2, rfl⟩
              all_goals
                go_wp2_with fail
                refine (HKr2.out _ (Kept.refl _ _)).mono ?_
                rintro e w1 ⟨rfl, hk⟩
                have HK := Lib.hid hk
                clear hk
                go_wp2
                go_ret
                exact ⟨by rw [HKf.out]; rfl, HK.out⟩
end Go.Proofs.Ytokdlmpnokmniaa
