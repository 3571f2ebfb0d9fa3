/-
  The document's Codes.
-/
import Derived.Test.YtokdlmpnokmniaaKindC
namespace Go.Proofs.Ytokdlmpnokmniaa
open Go.RowKit
set_option linter.unusedVariables false
set_option linter.unusedSimpArgs false

/-- The codes of all lengths below m, and of the first i places of length m. -/
def outP (ls : List Int) (m i : Nat) : List Int := (List.range ls.length).map (fun p : Nat => if 0 < ls.getD p 0 ∧ (ls.getD p 0 < (m : Int) ∨ (ls.getD p 0 = (m : Int) ∧ p < i)) then codeAt ls p else 0)
theorem outP_len (ls : List Int) (m i : Nat) : (outP ls m i).length = ls.length := by simp [outP]
theorem outP_zero (ls : List Int) : outP ls 1 0 = List.replicate ls.length 0 := by
  apply List.ext_getElem (by simp [outP])
  intro p h1 h2
  simp only [outP, List.getElem_map, List.getElem_range, List.getElem_replicate]
  rw [if_neg (by omega)]
theorem outP_set (ls : List Int) (m i : Nat) (hm : 1 ≤ m) (h : i < ls.length) (hz : ls.getD i 0 = (m : Int)) : outP ls m (i + 1) = (outP ls m i).set i (codeAt ls i) := by
  apply List.ext_getElem (by simp [outP])
  intro p h1 h2
  rw [List.getElem_set]
  simp only [outP, List.getElem_map, List.getElem_range]
  by_cases e : i = p
  · subst e
    rw [if_pos rfl, if_pos ⟨by omega, .inr ⟨hz, by omega⟩⟩]
  · rw [if_neg e]
    by_cases h3 : 0 < ls.getD p 0 ∧ (ls.getD p 0 < (m : Int) ∨ (ls.getD p 0 = (m : Int) ∧ p < i))
    · rw [if_pos h3, if_pos ⟨h3.1, by omega⟩]
    · rw [if_neg h3, if_neg (fun h4 => h3 ⟨h4.1, by omega⟩)]
theorem outP_same (ls : List Int) (m i : Nat) (hz : ¬ ls.getD i 0 = (m : Int)) : outP ls m (i + 1) = outP ls m i := by
  unfold outP
  apply List.map_congr_left
  intro p _
  by_cases e : p = i
  · subst e
    by_cases h3 : 0 < ls.getD p 0 ∧ ls.getD p 0 < (m : Int)
    · rw [if_pos ⟨h3.1, .inl h3.2⟩, if_pos ⟨h3.1, .inl h3.2⟩]
    · rw [if_neg (fun h4 => h3 ⟨h4.1, by omega⟩), if_neg (fun h4 => h3 ⟨h4.1, by omega⟩)]
  · by_cases h3 : 0 < ls.getD p 0 ∧ (ls.getD p 0 < (m : Int) ∨ (ls.getD p 0 = (m : Int) ∧ p < i))
    · rw [if_pos h3, if_pos ⟨h3.1, by omega⟩]
    · rw [if_neg h3, if_neg (fun h4 => h3 ⟨h4.1, by omega⟩)]
theorem outP_next (ls : List Int) (m : Nat) : outP ls m ls.length = outP ls (m + 1) 0 := by
  unfold outP
  apply List.map_congr_left
  intro p hp
  have hpl := List.mem_range.1 hp
  by_cases h3 : 0 < ls.getD p 0 ∧ (ls.getD p 0 < (m : Int) ∨ (ls.getD p 0 = (m : Int) ∧ p < ls.length))
  · rw [if_pos h3, if_pos ⟨h3.1, by omega⟩]
  · rw [if_neg h3, if_neg (fun h4 => h3 ⟨h4.1, by omega⟩)]
theorem outP_all (ls : List Int) (hs : Small 15 ls) : outP ls 16 0 = codesL ls := by
  unfold outP codesL codesP
  apply List.map_congr_left
  intro p hp
  have hpl := List.mem_range.1 hp
  have hb := hs.getD p hpl
  rw [if_pos hpl]
  by_cases h0 : 0 < ls.getD p 0
  · rw [if_pos ⟨h0, by omega⟩]
  · rw [if_neg (fun h => h0 h.1)]; unfold codeAt; rw [if_neg h0]
/-- The code that the document's way has when it comes to length m. -/
def codeB (ls : List Int) (m : Nat) : Int := if m ≤ 1 then 0 else fC (cntsL ls) (m - 1) + ((ls.count ((m - 1 : Nat) : Int) : Nat) : Int)
theorem codeB_twice (ls : List Int) (m : Nat) (hm : 1 ≤ m) (h16 : m ≤ 16) : codeB ls m * 2 = fC (cntsL ls) m := by
  unfold codeB
  by_cases h : m ≤ 1
  · have : m = 1 := by omega
    subst this
    rw [if_pos (by omega)]; rfl
  · obtain ⟨k, rfl⟩ : ∃ k, m = k + 1 := ⟨m - 1, by omega⟩
    rw [if_neg h, Nat.add_sub_cancel, fC_succ _ k (by omega), cnts_get _ _ (by omega)]
theorem codeB_next (ls : List Int) (m : Nat) (hm : 1 ≤ m) : codeB ls (m + 1) = fC (cntsL ls) m + ((ls.count (m : Int) : Nat) : Int) := by
  unfold codeB
  rw [if_neg (by omega), Nat.add_sub_cancel]
theorem codeB_bd (ls : List Int) (hl : ls.length ≤ 320) (m : Nat) (h16 : m ≤ 16) : 0 ≤ codeB ls m ∧ codeB ls m ≤ 60000000 := by
  unfold codeB
  split
  · omega
  · have h1 := fC_bd (cntsL ls) (cnts_bd ls hl) (m - 1) (by omega)
    have h2 := List.count_le_length (l := ls) (a := ((m - 1 : Nat) : Int))
    omega

theorem rcodes_no (a : Option Addr) (c B : Nat) (ls : List Int) (w : World) (hr : RdI w B a ls) (hall : AllI ls) (hl9 : ls.length ≤ 1000000) (h : errS ls ≠ 0) :
    Calls Try.prog 16 #[.slice a ls.length c] w fun e w' => e = .returned (.tuple #[.slice none 0 0, .int .i64 (errS ls)]) ∧ Kept NoB w w' := by
  have HCt := Lib.hid (rkind_any a c B ls w hr hall hl9)
  have hR : ∀ k, kindA ls = k → errS ls = if k = 0 then 1 else if k = 4 ∨ k = 5 then 3 else 0 := fun k h => by unfold errS; rw [h]
  have HR := Lib.hid hR
  obtain ⟨R, hRe⟩ : ∃ R, R = errS ls := ⟨_, rfl⟩
  rw [← hRe] at HR h ⊢
  obtain ⟨n, hn⟩ : ∃ n, n = ls.length := ⟨_, rfl⟩
  rw [← hn] at HCt ⊢
  clear hr hR hRe hn hall hl9
  rcases kindA_of ls with h1 | h1 | h1 | h1 | h1 | h1
  all_goals
    rw [h1] at HCt
    have hk := HR.out _ h1
    simp only [Int.reduceEq, or_false, or_true, if_true, if_false, or_self, false_or, true_or] at hk
    first
      | exact absurd hk h
      | (have HK := Lib.hid hk
         clear h1 hk HR h
         go_enter Try.func16, Try.ntmps16
         go_wp2_with fail
         refine HCt.out.mono ?_
         rintro e w1 ⟨rfl, hk⟩
         have HK1 := Lib.hid hk
         clear hk
         go_wp2
         go_ret2
         exact ⟨by rw [HK.out]; rfl, HK1.out⟩)

set_option maxRecDepth 20000 in
set_option maxHeartbeats 3000000 in
theorem rcodes_yes (a : Option Addr) (c B : Nat) (ls : List Int) (w : World) (hr : RdI w B a ls) (hall : AllI ls) (h : errS ls = 0) :
    Calls Try.prog 16 #[.slice a ls.length c] w (CodesP w (codesL ls)) := by
  obtain ⟨hmay, _⟩ := err_ok h
  have hl := hmay.len
  have hs := hmay.small
  have HCt := Lib.hid (rkind_any a c B ls w hr hall (by omega))
  have hkk : kindA ls = 1 ∨ kindA ls = 2 ∨ kindA ls = 3 := by
    have h1 := kindA_of ls
    unfold errS at h
    by_cases h0 : kindA ls = 0
    · rw [if_pos h0] at h; omega
    · rw [if_neg h0] at h
      by_cases h4 : kindA ls = 4 ∨ kindA ls = 5
      · rw [if_pos h4] at h; omega
      · omega
  obtain ⟨kd, hkd⟩ : ∃ kd, kd = kindA ls := ⟨_, rfl⟩
  rw [← hkd] at HCt hkk
  have k0 : (kd == 0) = false := by simp; omega
  have k4 : (kd == 4) = false := by simp; omega
  have k5 : (kd == 5) = false := by simp; omega
  have HR := Lib.hid hr; have HS := Lib.hid hs
  obtain ⟨Z, hZ⟩ : ∃ Z, Z = codesL ls := ⟨_, rfl⟩
  have HZ := Lib.hid hZ
  rw [← hZ]
  obtain ⟨n, hn⟩ : ∃ n, n = ls.length := ⟨_, rfl⟩
  have HN := Lib.hid hn
  rw [← hn] at hl HCt ⊢
  obtain ⟨i0, hi, hz0, hz1, hz2⟩ := info_parts infoU
  clear hr hs hn hZ hkd hkk h hmay hall
  go_enter Try.func16, Try.ntmps16
  go_wp2_with fail
  refine HCt.out.mono ?_
  rintro e w1 ⟨rfl, hk⟩
  have HK1 := Lib.hid hk
  clear hk
  go_wp2_with (at_make; refine wpList_make_full _ rfl _ _ _ rfl 0 31 i0 (.int .u32 0) 1 Try.underlying26 hi hz0 hz1 .i64 .i64 _ _ n rfl rfl rfl rfl (by rw [hz2]; omega) (by unfold maxLen; omega) (Nat.zero_le _) ?_)
  intro w4 hown hgrow
  rw [toList_madeCells_one] at hown
  have hk34 : Kept NoB w1 w4 := (Kept.refl _ _).grown hgrow (fun k _ e => by cases e)
  have hown0 : w4.ownsRow 0 31 1 (.slice (some ⟨w1.heap.size, 0, none⟩) n n) n ((outP ls 1 0).map (.int .u32)) := by
    rw [outP_zero, ← HN.out, List.map_replicate]; exact hown
  have HK6 := Lib.hid (HK1.out.trans hk34); have HO := Lib.hid hown0
  have hwW := HK1.out.size
  obtain ⟨D, hD⟩ : ∃ D, D = w1.heap.size := ⟨_, rfl⟩
  rw [← hD] at HO hwW ⊢
  have HD := Lib.hid hwW
  clear hown hgrow hk34 hown0 hD hwW k0 k4 k5
  go_wp2
  go_loopw [6, 5, 7] (fun v6 v5 _v7 wr => ∃ (m : Nat), v6 = .int .i64 (m : Int) ∧ v5 = .int .u32 (codeB ls m) ∧ 1 ≤ m ∧ m ≤ 16 ∧ Hid (wr.ownsRow 0 31 1 (.slice (some ⟨D, 0, none⟩) n n) n ((outP ls m 0).map (.int .u32))) ∧ Hid (Kept NoB w wr)) (fun v6 _ _ _ => 17 - (intOf v6).toNat)
  case atStart => exact ⟨1, rfl, rfl, by omega, by omega, HO, HK6⟩
  case round =>
    clear HO HK6
    obtain ⟨m, rfl, rfl, hm1, hm16, HO, HK⟩ := hrel
    have hl3 : ls.length ≤ 320 := by rw [← HN.out]; exact hl
    by_cases hlt : (m : Int) ≤ 15
    · have hb := codeB_bd ls hl3 m hm16
      have htw := codeB_twice ls m hm1 hm16
      obtain ⟨x, hx⟩ : ∃ x, x = codeB ls m := ⟨_, rfl⟩
      rw [← hx] at hb htw ⊢
      clear hx
      go_wp2
      clear htw
      go_loopw [7, 5] (fun v7 v5 wr => ∃ (j : Nat), v7 = .int .i64 (j : Int) ∧ v5 = .int .u32 (fC (cntsL ls) m + (((ls.take j).count (m : Int) : Nat) : Int)) ∧ j ≤ n ∧ Hid (wr.ownsRow 0 31 1 (.slice (some ⟨D, 0, none⟩) n n) n ((outP ls m j).map (.int .u32))) ∧ Hid (Kept NoB w wr)) (fun v7 _ _ => n - (intOf v7).toNat)
      case atStart => exact ⟨0, rfl, by simp, by omega, HO, HK⟩
      case round =>
        clear HO HK
        obtain ⟨j, rfl, rfl, hjn, HO, HK⟩ := hrel
        have hfb := fC_bd (cntsL ls) (cnts_bd ls hl3) m hm16
        have hcl := List.count_le_length (l := ls.take j) (a := (m : Int))
        rw [List.length_take] at hcl
        by_cases hlt2 : (j : Int) < n
        · have hjl : j < ls.length := by have := HN.out; omega
          obtain ⟨g, off, rfl, _, hc0⟩ := HR.out j hjl
          have hc := HK.out.cell hc0
          have hbz := HS.out.getD j hjl
          by_cases hzm : ls.getD j 0 = (m : Int)
          · have hset := outP_set ls m j hm1 hjl hzm
            have hcode : codeAt ls j = fC (cntsL ls) m + (((ls.take j).count (m : Int) : Nat) : Int) := by
              unfold codeAt; rw [if_pos (by omega), hzm, Int.toNat_natCast]
            have hnext : (ls.take (j + 1)).count (m : Int) = (ls.take j).count (m : Int) + 1 := by
              have := count_step ls j hjl
              rw [hzm] at this; exact this.symm
            have hud : ∃ u, wr.cell? ⟨D, j, none⟩ = some u := by
              rw [HO.out.cellAt j (by omega)]
              exact ⟨_, List.getElem?_eq_getElem (by simp [outP_len]; omega)⟩
            obtain ⟨u, hu⟩ := hud
            have hfd := HO.out.frozenAt j
            obtain ⟨y, hy⟩ : ∃ y, y = fC (cntsL ls) m + (((ls.take j).count (m : Int) : Nat) : Int) := ⟨_, rfl⟩
            have hyn : fC (cntsL ls) m + (((ls.take (j + 1)).count (m : Int) : Nat) : Int) = y + 1 := by rw [hnext, hy]; omega
            have hyb : 0 ≤ y ∧ y ≤ 60000000 := by omega
            rw [← hy] at hcode ⊢
            obtain ⟨s1, _⟩ := HO.out.stored j (.int .u32 y)
            rw [← List.map_set, ← hcode, ← hset] at s1
            have hK2 : Kept NoB w (wr.setCell ⟨D, j, none⟩ (.int .u32 y)) := Kept.setCell (p := ⟨D, j, none⟩) HK.out (.inr HD.out) _
            rw [hcode] at s1
            have HO2 := Lib.hid s1; have HK2 := Lib.hid hK2; have HYn := Lib.hid hyn
            rw [hzm] at hc
            have ew : IntKind.u32.wrap (y + 1) = y + 1 := IntWalk.u32_in _ (by omega)
            clear hset hcode hnext hy hyn s1 hK2 hfb hcl hc0 hzm hbz hjl
            go_wp2
            go_roundw
            case rel => exact ⟨j + 1, by go_num, by rw [HYn.out], by omega, HO2, HK2⟩
            case measure => simp [intOf]; omega
          · have hsame := outP_same ls m j hzm
            have hnext : (ls.take (j + 1)).count (m : Int) = (ls.take j).count (m : Int) := by
              rw [take_snoc ls j hjl, List.count_append]
              have : (ls.getD j 0 == (m : Int)) = false := by simpa using hzm
              simp only [List.count_singleton, this]; simp
            have hO := HO.out
            rw [← hsame] at hO
            have HO2 := Lib.hid hO
            have HNx := Lib.hid hnext
            obtain ⟨z, hz⟩ : ∃ z, z = ls.getD j 0 := ⟨_, rfl⟩
            rw [← hz] at hc hzm
            have g1 : (z == (m : Int)) = false := by simpa using hzm
            clear hsame hnext hO hfb hcl hc0 hbz hz
            go_wp2
            go_roundw
            case rel => exact ⟨j + 1, by go_num, by rw [HNx.out], by omega, HO2, HK⟩
            case measure => simp [intOf]; omega
        · have hjn2 : j = n := by omega
          subst hjn2
          have htk : ls.take j = ls := List.take_of_length_le (by have := HN.out; omega)
          have hO := HO.out
          have e1 := outP_next ls m
          rw [← HN.out] at e1
          rw [e1] at hO
          have HO2 := Lib.hid hO
          have hcb := codeB_next ls m hm1
          rw [htk, ← hcb]
          clear htk hO e1 hcb hfb hcl
          go_wp2
          go_roundw
          case rel => exact ⟨m + 1, by go_num, rfl, by omega, by omega, HO2, HK⟩
          case measure => simp [intOf]; omega
    · have hm : m = 16 := by omega
      subst hm
      have hzl : Z.length = n := by rw [HZ.out]; unfold codesL; rw [codesP_len]; exact HN.out.symm
      have hO := HO.out
      rw [outP_all ls HS.out, ← HZ.out] at hO
      have HOf := Lib.hid hO; have HZl := Lib.hid hzl
      clear hzl hO HO
      go_wp2
      go_ret2
      exact ⟨some ⟨D, 0, none⟩, n, by rw [HZl.out]; rfl, by rw [HZl.out]; exact HOf.out, HK.out⟩
end Go.Proofs.Ytokdlmpnokmniaa
