/-
  The document's Codes.
  The document's own way to read a place by lengths.
-/
import Derived.Test.YtdpegahcgaicnaaGreatDoorMg38
namespace Go.Proofs.YtdpegahcgaicnaaGreatDoor
open Go.RowKit
set_option linter.unusedVariables false
set_option linter.unusedSimpArgs false

/-- The codes of all lengths below m, and of the first i places of length m. -/
def outP (ls : List Int) (m i : Nat) : List Int := (List.range ls.length).map (fun p : Nat => if 0 < ls.getD p 0 ∧ (ls.getD p 0 < (m : Int) ∨ (ls.getD p 0 = (m : Int) ∧ p < i)) then codeAt ls p else 0)
theorem outP_len (ls : List Int) (m i : Nat) : (outP ls m i).length = ls.length := by simp [outP]
theorem outP_zero (ls : List Int) : outP ls 1 0 = List.replicate ls.length 0 := by
  apply List.ext_getElem (by simp [outP])
  intro p h1 h2
  simp only [outP, List.getElem_map, List.getElem_range, List.getElem_replicate]
  rw [if_neg (by omega)]
theorem outP_set (ls : List Int) (m i : Nat) (hm : 1 ≤ m) (h : i < ls.length) (hz : ls.getD i 0 = (m : Int)) : outP ls m (i + 1) = (outP ls m i).set i (codeAt ls i) := by
  apply List.ext_getElem (by simp [outP])
  intro p h1 h2
  rw [List.getElem_set]
  simp only [outP, List.getElem_map, List.getElem_range]
  by_cases e : i = p
  · subst e
    rw [if_pos rfl, if_pos ⟨by omega, .inr ⟨hz, by omega⟩⟩]
  · rw [if_neg e]
    by_cases h3 : 0 < ls.getD p 0 ∧ (ls.getD p 0 < (m : Int) ∨ (ls.getD p 0 = (m : Int) ∧ p < i))
    · rw [if_pos h3, if_pos ⟨h3.1, by omega⟩]
    · rw [if_neg h3, if_neg (fun h4 => h3 ⟨h4.1, by omega⟩)]
theorem outP_same (ls : List Int) (m i : Nat) (hz : ¬ ls.getD i 0 = (m : Int)) : outP ls m (i + 1) = outP ls m i := by
  unfold outP
  apply List.map_congr_left
  intro p _
  by_cases e : p = i
  · subst e
    by_cases h3 : 0 < ls.getD p 0 ∧ ls.getD p 0 < (m : Int)
    · rw [if_pos ⟨h3.1, .inl h3.2⟩, if_pos ⟨h3.1, .inl h3.2⟩]
    · rw [if_neg (fun h4 => h3 ⟨h4.1, by omega⟩), if_neg (fun h4 => h3 ⟨h4.1, by omega⟩)]
  · by_cases h3 : 0 < ls.getD p 0 ∧ (ls.getD p 0 < (m : Int) ∨ (ls.getD p 0 = (m : Int) ∧ p < i))
    · rw [if_pos h3, if_pos ⟨h3.1, by omega⟩]
    · rw [if_neg h3, if_neg (fun h4 => h3 ⟨h4.1, by omega⟩)]
theorem outP_next (ls : List Int) (m : Nat) : outP ls m ls.length = outP ls (m + 1) 0 := by
  unfold outP
  apply List.map_congr_left
  intro p hp
  have hpl := List.mem_range.1 hp
  by_cases h3 : 0 < ls.getD p 0 ∧ (ls.getD p 0 < (m : Int) ∨ (ls.getD p 0 = (m : Int) ∧ p < ls.length))
  · rw [if_pos h3, if_pos ⟨h3.1, by omega⟩]
  · rw [if_neg h3, if_neg (fun h4 => h3 ⟨h4.1, by omega⟩)]
theorem outP_all (ls : List Int) (hs : Small 15 ls) : outP ls 16 0 = codesL ls := by
  unfold outP codesL codesP
  apply List.map_congr_left
  intro p hp
  have hpl := List.mem_range.1 hp
  have hb := hs.getD p hpl
  rw [if_pos hpl]
  by_cases h0 : 0 < ls.getD p 0
  · rw [if_pos ⟨h0, by omega⟩]
  · rw [if_neg (fun h => h0 h.1)]; unfold codeAt; rw [if_neg h0]
/-- The code that the document's way has when it comes to length m. -/
def codeB (ls : List Int) (m : Nat) : Int := if m ≤ 1 then 0 else fC (cntsL ls) (m - 1) + ((ls.count ((m - 1 : Nat) : Int) : Nat) : Int)
theorem codeB_twice (ls : List Int) (m : Nat) (hm : 1 ≤ m) (h16 : m ≤ 16) : codeB ls m * 2 = fC (cntsL ls) m := by
  unfold codeB
  by_cases h : m ≤ 1
  · have : m = 1 := by omega
    subst this
    rw [if_pos (by omega)]; rfl
  · obtain ⟨k, rfl⟩ : ∃ k, m = k + 1 := ⟨m - 1, by omega⟩
    rw [if_neg h, Nat.add_sub_cancel, fC_succ _ k (by omega), cnts_get _ _ (by omega)]
theorem codeB_next (ls : List Int) (m : Nat) (hm : 1 ≤ m) : codeB ls (m + 1) = fC (cntsL ls) m + ((ls.count (m : Int) : Nat) : Int) := by
  unfold codeB
  rw [if_neg (by omega), Nat.add_sub_cancel]
theorem codeB_bd (ls : List Int) (hl : ls.length ≤ 320) (m : Nat) (h16 : m ≤ 16) : 0 ≤ codeB ls m ∧ codeB ls m ≤ 60000000 := by
  unfold codeB
  split
  · omega
  · have h1 := fC_bd (cntsL ls) (cnts_bd ls hl) (m - 1) (by omega)
    have h2 := List.count_le_length (l := ls) (a := ((m - 1 : Nat) : Int))
    omega

set_option maxRecDepth 20000 in
set_option maxHeartbeats 3000000 in
theorem rcodes_yes (a : Option Addr) (c B : Nat) (ls : List Int) (w : World) (hr : RdI w B a ls) (hall : AllI ls) (h : errS ls = 0) :
    Calls Tryz.prog 52 #[.slice a ls.length c] w (CodesP w (codesL ls)) := by
  obtain ⟨hmay, _⟩ := err_ok h
  have hl := hmay.len
  have hs := hmay.small
  have HCt := Lib.hid (rkind_any a c B ls w hr hall (by omega))
  have hkk : kindA ls = 1 ∨ kindA ls = 2 ∨ kindA ls = 3 := by
    have h1 := kindA_of ls
    unfold errS at h
    by_cases h0 : kindA ls = 0
    · rw [if_pos h0] at h; omega
    · rw [if_neg h0] at h
      by_cases h4 : kindA ls = 4 ∨ kindA ls = 5
      · rw [if_pos h4] at h; omega
      · omega
  obtain ⟨kd, hkd⟩ : ∃ kd, kd = kindA ls := ⟨_, rfl⟩
  rw [← hkd] at HCt hkk
  have k0 : (kd == 0) = false := by simp; omega
  have k4 : (kd == 4) = false := by simp; omega
  have k5 : (kd == 5) = false := by simp; omega
  have HR := Lib.hid hr; have HS := Lib.hid hs
  obtain ⟨Z, hZ⟩ : ∃ Z, Z = codesL ls := ⟨_, rfl⟩
  have HZ := Lib.hid hZ
  rw [← hZ]
  obtain ⟨n, hn⟩ : ∃ n, n = ls.length := ⟨_, rfl⟩
  have HN := Lib.hid hn
  rw [← hn] at hl HCt ⊢
  obtain ⟨i0, hi, hz0, hz1, hz2⟩ := info_parts infoU
  clear hr hs hn hZ hkd hkk h hmay hall
  go_enter Tryz.func52, Tryz.ntmps52
  go_wp2_with fail
  refine HCt.out.mono ?_
  rintro e w1 ⟨rfl, hk⟩
  have HK1 := Lib.hid hk
  clear hk
  go_wp2_with (at_make; refine wpList_make_full _ rfl _ _ _ rfl 0 47 i0 (.int .u32 0) 1 Tryz.underlying91 hi hz0 hz1 .i64 .i64 _ _ n rfl rfl rfl rfl (by rw [hz2]; omega) (by unfold maxLen; omega) (Nat.zero_le _) ?_)
  intro w4 hown hgrow
  rw [toList_madeCells_one] at hown
  have hk34 : Kept NoB w1 w4 := (Kept.refl _ _).grown hgrow (fun k _ e => by cases e)
  have hown0 : w4.ownsRow 0 47 1 (.slice (some ⟨w1.heap.size, 0, none⟩) n n) n ((outP ls 1 0).map (.int .u32)) := by
    rw [outP_zero, ← HN.out, List.map_replicate]; exact hown
  have HK6 := Lib.hid (HK1.out.trans hk34); have HO := Lib.hid hown0
  have hwW := HK1.out.size
  obtain ⟨D, hD⟩ : ∃ D, D = w1.heap.size := ⟨_, rfl⟩
  rw [← hD] at HO hwW ⊢
  have HD := Lib.hid hwW
  clear hown hgrow hk34 hown0 hD hwW k0 k4 k5
  go_wp2
  go_loopw [6, 5, 7] (fun v6 v5 _v7 wr => ∃ (m : Nat), v6 = .int .i64 (m : Int) ∧ v5 = .int .u32 (codeB ls m) ∧ 1 ≤ m ∧ m ≤ 16 ∧ Hid (wr.ownsRow 0 47 1 (.slice (some ⟨D, 0, none⟩) n n) n ((outP ls m 0).map (.int .u32))) ∧ Hid (Kept NoB w wr)) (fun v6 _ _ _ => 17 - (intOf v6).toNat)
  case atStart => exact ⟨1, rfl, rfl, by omega, by omega, HO, HK6⟩
  case round =>
    clear HO HK6
    obtain ⟨m, rfl, rfl, hm1, hm16, HO, HK⟩ := hrel
    have hl3 : ls.length ≤ 320 := by rw [← HN.out]; exact hl
    by_cases hlt : (m : Int) ≤ 15
    · have hb := codeB_bd ls hl3 m hm16
      have htw := codeB_twice ls m hm1 hm16
      obtain ⟨x, hx⟩ : ∃ x, x = codeB ls m := ⟨_, rfl⟩
      rw [← hx] at hb htw ⊢
      clear hx
      go_wp2
      clear htw
      go_loopw [7, 5] (fun v7 v5 wr => ∃ (j : Nat), v7 = .int .i64 (j : Int) ∧ v5 = .int .u32 (fC (cntsL ls) m + (((ls.take j).count (m : Int) : Nat) : Int)) ∧ j ≤ n ∧ Hid (wr.ownsRow 0 47 1 (.slice (some ⟨D, 0, none⟩) n n) n ((outP ls m j).map (.int .u32))) ∧ Hid (Kept NoB w wr)) (fun v7 _ _ => n - (intOf v7).toNat)
      case atStart => exact ⟨0, rfl, by simp, by omega, HO, HK⟩
      case round =>
        clear HO HK
        obtain ⟨j, rfl, rfl, hjn, HO, HK⟩ := hrel
        have hfb := fC_bd (cntsL ls) (cnts_bd ls hl3) m hm16
        have hcl := List.count_le_length (l := ls.take j) (a := (m : Int))
        rw [List.length_take] at hcl
        by_cases hlt2 : (j : Int) < n
        · have hjl : j < ls.length := by have := HN.out; omega
          obtain ⟨g, off, rfl, _, hc0⟩ := HR.out j hjl
          have hc := HK.out.cell hc0
          have hbz := HS.out.getD j hjl
          by_cases hzm : ls.getD j 0 = (m : Int)
          · have hset := outP_set ls m j hm1 hjl hzm
            have hcode : codeAt ls j = fC (cntsL ls) m + (((ls.take j).count (m : Int) : Nat) : Int) := by
              unfold codeAt; rw [if_pos (by omega), hzm, Int.toNat_natCast]
            have hnext : (ls.take (j + 1)).count (m : Int) = (ls.take j).count (m : Int) + 1 := by
              have := count_step ls j hjl
              rw [hzm] at this; exact this.symm
            have hud : ∃ u, wr.cell? ⟨D, j, none⟩ = some u := by
              rw [HO.out.cellAt j (by omega)]
              exact ⟨_, List.getElem?_eq_getElem (by simp [outP_len]; omega)⟩
            obtain ⟨u, hu⟩ := hud
            have hfd := HO.out.frozenAt j
            obtain ⟨y, hy⟩ : ∃ y, y = fC (cntsL ls) m + (((ls.take j).count (m : Int) : Nat) : Int) := ⟨_, rfl⟩
            have hyn : fC (cntsL ls) m + (((ls.take (j + 1)).count (m : Int) : Nat) : Int) = y + 1 := by rw [hnext, hy]; omega
            have hyb : 0 ≤ y ∧ y ≤ 60000000 := by omega
            rw [← hy] at hcode ⊢
            obtain ⟨s1, _⟩ := HO.out.stored j (.int .u32 y)
            rw [← List.map_set, ← hcode, ← hset] at s1
            have hK2 : Kept NoB w (wr.setCell ⟨D, j, none⟩ (.int .u32 y)) := Kept.setCell (p := ⟨D, j, none⟩) HK.out (.inr HD.out) _
            rw [hcode] at s1
            have HO2 := Lib.hid s1; have HK2 := Lib.hid hK2; have HYn := Lib.hid hyn
            rw [hzm] at hc
            have ew : IntKind.u32.wrap (y + 1) = y + 1 := IntWalk.u32_in _ (by omega)
            clear hset hcode hnext hy hyn s1 hK2 hfb hcl hc0 hzm hbz hjl
            go_wp2
            go_roundw
            case rel => exact ⟨j + 1, by go_num, by rw [HYn.out], by omega, HO2, HK2⟩
            case measure => simp [intOf]; omega
          · have hsame := outP_same ls m j hzm
            have hnext : (ls.take (j + 1)).count (m : Int) = (ls.take j).count (m : Int) := by
              rw [take_snoc ls j hjl, List.count_append]
              have : (ls.getD j 0 == (m : Int)) = false := by simpa using hzm
              simp only [List.count_singleton, this]; simp
            have hO := HO.out
            rw [← hsame] at hO
            have HO2 := Lib.hid hO
            have HNx := Lib.hid hnext
            obtain ⟨z, hz⟩ : ∃ z, z = ls.getD j 0 := ⟨_, rfl⟩
            rw [← hz] at hc hzm
            have g1 : (z == (m : Int)) = false := by simpa using hzm
            clear hsame hnext hO hfb hcl hc0 hbz hz
            go_wp2
            go_roundw
            case rel => exact ⟨j + 1, by go_num, by rw [HNx.out], by omega, HO2, HK⟩
            case measure => simp [intOf]; omega
        · have hjn2 : j = n := by omega
          subst hjn2
          have htk : ls.take j = ls := List.take_of_length_le (by have := HN.out; omega)
          have hO := HO.out
          have e1 := outP_next ls m
          rw [← HN.out] at e1
          rw [e1] at hO
          have HO2 := Lib.hid hO
          have hcb := codeB_next ls m hm1
          rw [htk, ← hcb]
          clear htk hO e1 hcb hfb hcl
          go_wp2
          go_roundw
          case rel => exact ⟨m + 1, by go_num, rfl, by omega, by omega, HO2, HK⟩
          case measure => simp [intOf]; omega
    · have hm : m = 16 := by omega
      subst hm
      have hzl : Z.length = n := by rw [HZ.out]; unfold codesL; rw [codesP_len]; exact HN.out.symm
      have hO := HO.out
      rw [outP_all ls HS.out, ← HZ.out] at hO
      have HOf := Lib.hid hO; have HZl := Lib.hid hzl
      clear hzl hO HO
      go_wp2
      go_ret2
      exact ⟨some ⟨D, 0, none⟩, n, by rw [HZl.out]; rfl, by rw [HZl.out]; exact HOf.out, HK.out⟩
end Go.Proofs.YtdpegahcgaicnaaGreatDoor

namespace Go.Proofs.YtdpegahcgaicnaaGreatDoor
open Go.RowKit
set_option linter.unusedVariables false
set_option linter.unusedSimpArgs false

theorem err_of {ls : List Int} (h1 : MayL ls) (h2 : refS ls = 0) : errS ls = 0 := by
  unfold errS kindA
  rw [if_pos h1]
  unfold refS at h2
  rcases kindS_of ls with k | k | k | k | k <;> simp [k] at h2 ⊢

set_option maxRecDepth 20000 in
set_option maxHeartbeats 4000000 in
theorem rread_callsG (ls : List Int) (a : Option Addr) (c : Nat) (S : Nat → Prop) (R : Nat) (bs : List Int) (p T : Nat) (w : World) (hr : Rfb w R bs p) (hx : RdG w S a ls) (hBR : ¬ S R) (hs : Small 15 ls) (hl : ls.length ≤ 320) (hok : refS ls = 0)
    (hT : min3 15 (8 * bs.length - p) = T) :
    Calls Tryz.prog 62 #[.pointer (some ⟨R, 0, none⟩), .slice a ls.length c] w fun e w' => ∃ (s f : Int) (q : Nat), e = .returned (.tuple #[.int .i64 s, .int .i64 f]) ∧ ReadS ls T (bitsAt bs p T) p s f q ∧ Rfb w' R bs q ∧ Kept (OneB R) w w' := by
  have hT15 : T ≤ 15 ∧ p + T ≤ 8 * bs.length ∧ (T : Int) = if 15 < 8 * (bs.length : Int) - p then 15 else 8 * (bs.length : Int) - p := by
    have := hr.2.2.2
    unfold min3 at hT; omega
  have hml : min3 (T : Int) (8 * bs.length - p) = T := by unfold min3 at hT ⊢; omega
  have hvl := bitsAt_lt bs p T
  have hlm := hr.2.2.1
  have hall : AllI ls := fun z hz => by have := hs z hz; omega
  have HCd := Lib.hid (rcodes_yes a c _ ls w hx.room hall (err_of ⟨hl, hs⟩ hok))
  have hp8 := hr.2.2.2
  obtain ⟨hT1, hT2, hT3⟩ := hT15
  have HT3 := Lib.hid hT3
  have HMl := Lib.hid hml
  have HOp := Lib.hid (open_iff ls hs hl hok T (bitsAt bs p T))
  have HSt : Hid (∀ i n : Nat, i < ls.length → ls.getD i 0 = (n : Int) → 1 ≤ n → n ≤ T → codeAt ls i = (codeN (bitsAt bs p T) n : Int) → ReadS ls T (bitsAt bs p T) p (i : Int) 0 (p + n)) := Lib.hid (by
    intro i n hi hz h1 h2 hc
    refine .inl ⟨n, i, h1, h2, hi, hz, hc, ?_, rfl, rfl, rfl⟩
    intro m hm1 hm2 j hj hzj e
    obtain ⟨d, rfl⟩ : ∃ d, n = m + d := ⟨n - m, by omega⟩
    have hne : j ≠ i := by
      rintro rfl
      rw [hz] at hzj; omega
    have hfr := (code_free ls hl hs j i hj hi hne (by omega) d (by rw [hzj, hz]; omega)).1
    rw [hc, codeN_pre_int, ← e] at hfr
    exact hfr rfl)
  obtain ⟨v, hv⟩ : ∃ v, v = bitsAt bs p T := ⟨_, rfl⟩
  rw [← hv] at hvl HOp HSt ⊢
  have HV := Lib.hid hv
  have hv2 : v < 32768 := Nat.lt_of_lt_of_le hvl (by have := Nat.pow_le_pow_right (n := 2) (by decide) hT1; simpa using this)
  have HRf := Lib.hid hr; have HX := Lib.hid hx; have HS := Lib.hid hs
  obtain ⟨n, hn⟩ : ∃ n, n = ls.length := ⟨_, rfl⟩
  have HN := Lib.hid hn
  have hn320 : n ≤ 320 := by omega
  rw [← hn] at HCd ⊢
  clear hr hx hs hn hv hvl hT3 hml hall hok hT hp8
  go_enter Tryz.func62, Tryz.ntmps62
  go_wp2_with fail
  refine HCd.out.mono ?_
  intro e w2 hp
  obtain ⟨a4, c4, rfl, ho4, hr4, hk⟩ := codes_read2 hp
  have hne4 := row_ne ho4 (hk.obj HRf.out.1 (fun h => h)) (by decide)
  have hcl : (codesL ls).length = n := by unfold codesL; rw [codesP_len]; exact HN.out.symm
  rw [hcl] at hr4 hne4 ⊢
  have HNe := Lib.hid hne4
  have HR4 := Lib.hid hr4; have HK2 := Lib.hid hk; have HRf2 := Lib.hid (HRf.out.kept hk (fun h => h))
  clear hp hr4 hk hcl HCd ho4 hne4
  go_upto_region 4 with fail
  go_cut [8] from 23 to 26 (fun s wx => s = .int .i64 T ∧ Hid (Kept NoB w2 wx))
  case first =>
    go_wp2_with (go_at_call 59; refine (refLeft_any _ _ _ _ HRf2.out).mono ?_; rintro e w1 ⟨rfl, hk1⟩)
    all_goals go_meet
    all_goals exact ⟨by have := HT3.out; congr 1; omega, Lib.hid hk1⟩
  case rest =>
  obtain ⟨rfl, HK3⟩ := hcut
  have HPk := Lib.hid (refPeek_any wc R bs p (T : Int) (HRf2.out.kept HK3.out (fun h => h)) T HMl.out)
  rw [← HV.out] at HPk
  go_wp2_with fail
  refine HPk.out.mono ?_
  rintro e w4 ⟨rfl, hrf, hk⟩
  have HRf4 := Lib.hid hrf
  have HK4 := Lib.hid ((HK3.out.mono (fun _ _ h => h.elim) : Kept (OneB R) w2 wc).trans hk)
  have HK := Lib.hid ((HK2.out.mono (fun _ _ h => h.elim) : Kept (OneB R) w w2).trans HK4.out)
  clear hrf hk HPk
  go_wp2
  go_loopw [12, 11, 13, 14] (fun v12 v11 _v13 _v14 wr => ∃ (i : Nat) (o : Bool), v12 = .int .i64 (i : Int) ∧ v11 = .bool o ∧ i ≤ n ∧ Hid (o = true ↔ ∃ j, j < i ∧ OpenP ls T v j) ∧ Hid (∀ j m : Nat, j < i → ls.getD j 0 = (m : Int) → 1 ≤ m → m ≤ T → codeAt ls j ≠ (codeN v m : Int)) ∧ Hid (Kept NoB w4 wr)) (fun v12 _ _ _ _ => n - (intOf v12).toNat)
  case atStart => exact ⟨0, false, rfl, rfl, by omega, Lib.hid (by simp), Lib.hid (fun j m h => by omega), Kept.refl _ _⟩
  case round =>
    obtain ⟨i, o, rfl, rfl, hin, HO, HNo, HKr⟩ := hrel
    by_cases hlt : (i : Int) < n
    · have hil : i < ls.length := by have := HN.out; omega
      have hbi := HS.out.getD i hil
      obtain ⟨z, hz⟩ : ∃ z : Nat, ls.getD i 0 = (z : Int) := ⟨(ls.getD i 0).toNat, by omega⟩
      have hrd := (HX.out.kept (HK.out.trans (HKr.out.mono (fun _ _ h => h.elim))) (fun k hk e => by unfold OneB at e; exact hBR (e ▸ hk))) i hil
      obtain ⟨g1, o1, rfl, hg1, d0⟩ := hrd
      obtain ⟨g4, rfl, y0⟩ := HR4.out i (by omega)
      have hK24 : Kept (OneB R) w2 wr := HK4.out.trans (HKr.out.mono (fun _ _ h => h.elim))
      rw [codesL_get _ _ hil] at y0
      have hg4 : g4 ≠ R := HNe.out g4 rfl
      have d1 := (World.cell?_of_block (hK24.block _ (World.block_lt_of_cell? w2 _ y0) (fun e => hg4 e))).trans y0
      rw [hz] at d0 hbi
      have HZ := Lib.hid hz
      have hcb := codeAt_bd ls (by rw [← HN.out]; exact hn320) HS.out i hil
      obtain ⟨ck, hck⟩ : ∃ ck : Nat, codeAt ls i = (ck : Int) := ⟨(codeAt ls i).toNat, by omega⟩
      rw [hck] at d1 hcb
      have HCk := Lib.hid hck; have HIl := Lib.hid hil
      clear hz hck hil y0 hg4 hg1 hK24
      have hNs : ∀ (h : z = 0 ∨ T < z ∨ (1 ≤ z ∧ codeAt ls i ≠ (codeN v z : Int))), Hid (∀ j m : Nat, j < i + 1 → ls.getD j 0 = (m : Int) → 1 ≤ m → m ≤ T → codeAt ls j ≠ (codeN v m : Int)) := fun h => Lib.hid (by
        intro j m hj hzj h1 h2
        by_cases e : j = i
        · subst e
          have hzm : z = m := by have := HZ.out; omega
          subst hzm
          rcases h with h | h | h
          · omega
          · omega
          · exact h.2
        · exact HNo.out j m (by omega) hzj h1 h2)
      have hOs : ∀ (h : ¬ OpenP ls T v i), Hid (o = true ↔ ∃ j, j < i + 1 ∧ OpenP ls T v j) := fun h => Lib.hid (by
        rw [HO.out]
        constructor
        · rintro ⟨j, hj, hp⟩; exact ⟨j, by omega, hp⟩
        · rintro ⟨j, hj, hp⟩
          refine ⟨j, ?_, hp⟩
          by_cases e : j = i
          · subst e; exact absurd hp h
          · omega)
      have HNs := Lib.hid hNs; have HOs := Lib.hid hOs
      clear hNs hOs
      by_cases hz0 : z = 0
      · have HA := Lib.hid (HNs.out (.inl hz0))
        have HB := Lib.hid (HOs.out (fun h => by have := h.1; rw [HZ.out] at this; omega))
        have q0 : ((z : Int) == 0) = true := by simp; omega
        clear hz0
        go_wp2
        go_roundw
        case rel => exact ⟨i + 1, o, by go_num, rfl, by omega, HB.out, HA.out, HKr⟩
        case measure => simp [intOf]; omega
      · have q0 : ((z : Int) == 0) = false := by simp; omega
        obtain ⟨k, hk⟩ : ∃ k, k = min z T := ⟨_, rfl⟩
        obtain ⟨d, hd⟩ : ∃ d, d = z - k := ⟨_, rfl⟩
        have hk15 : k ≤ 15 := by omega
        have hd15 : d ≤ 15 := by omega
        have e1 : IntKind.i64.wrap ((z : Int) - (k : Int)) = (d : Int) := by rw [IntWalk.i64_in _ (by omega)]; omega
        have hrv := fun w0 => refRev_any v k w0 (by omega) (by omega)
        rw [revN_code v k] at hrv
        have HRv := Lib.hid hrv
        have hX := codeN_lt v k
        have hpw : 2 ^ k ≤ 2 ^ 15 := Nat.pow_le_pow_right (by decide) hk15
        have hdiv : ((ck : Nat) : Int) / 2 ^ d = ((ck / 2 ^ d : Nat) : Int) := by push_cast; rfl
        obtain ⟨X, hXe⟩ : ∃ X, X = codeN v k := ⟨_, rfl⟩
        rw [← hXe] at HRv hX
        have HXe := Lib.hid hXe
        have HD := Lib.hid hd; have HKe := Lib.hid hk
        clear hXe hrv hpw
        obtain ⟨Y, hY⟩ : ∃ Y, Y = ck / 2 ^ d := ⟨_, rfl⟩
        have hYb : Y ≤ ck := by rw [hY]; exact Nat.div_le_self _ _
        rw [← hY] at hdiv
        have HY := Lib.hid hY
        clear hY hd
        by_cases hTz : T < z
        · have hkT : k = T := by omega
          subst hkT
          have hTz2 : (k : Int) < (z : Int) := by omega
          clear hTz hk
          have HOp1 : Hid (OpenP ls k v i ↔ Y = X) := Lib.hid (by
            unfold OpenP
            rw [HZ.out, HCk.out, Int.toNat_natCast, ← HD.out, hdiv, ← HXe.out]
            omega)
          have HA := Lib.hid (HNs.out (.inr (.inl (by omega))))
          by_cases hXY : X = Y
          · have q1 : ((X : Int) != (Y : Int)) = false := by simp; omega
            have q2 : ((k : Int) == (z : Int)) = false := by simp; omega
            have HB : Hid (true = true ↔ ∃ j, j < i + 1 ∧ OpenP ls k v j) := Lib.hid ⟨fun _ => ⟨i, by omega, HOp1.out.2 hXY.symm⟩, fun _ => rfl⟩
            clear hXY
            go_upto_region 13 with fail
            go_quiet ((go_at_call 53; exact Calls.quiet_of_same ((HRv.out _).mono fun _ _ h => ⟨h.1, h.2.symm⟩)))
            have HKq := Lib.hid (HKr.out.drewN nq)
            go_wp2
            go_roundw
            case rel => exact ⟨i + 1, true, by go_num, rfl, by omega, HB.out, HA.out, HKq⟩
            case measure => simp [intOf]; omega
          · have q1 : ((X : Int) != (Y : Int)) = true := by simp; omega
            have HB := Lib.hid (HOs.out (fun h => hXY (HOp1.out.1 h).symm))
            clear hXY
            go_upto_region 13 with fail
            go_quiet ((go_at_call 53; exact Calls.quiet_of_same ((HRv.out _).mono fun _ _ h => ⟨h.1, h.2.symm⟩)))
            have HKq := Lib.hid (HKr.out.drewN nq)
            go_wp2
            go_roundw
            case rel => exact ⟨i + 1, o, by go_num, rfl, by omega, HB.out, HA.out, HKq⟩
            case measure => simp [intOf]; omega
        · have hkz : k = z := by omega
          subst hkz
          have hTz2 : ¬ (T : Int) < (k : Int) := by omega
          have hd0 : d = 0 := by have := HD.out; omega
          have hYck : Y = ck := by rw [HY.out, hd0]; simp
          have hnop : ¬ OpenP ls T v i := fun h => by have := h.1; rw [HZ.out] at this; omega
          have HB := Lib.hid (HOs.out hnop)
          clear hk hnop
          by_cases hXY : X = Y
          · have q1 : ((X : Int) != (ck : Int)) = false := by simp; omega
            have q2 : ((k : Int) == (k : Int)) = true := by simp
            have HF := Lib.hid (HSt.out i k HIl.out HZ.out (by omega) (by omega) (by rw [HCk.out, ← hYck, ← hXY, ← HXe.out]))
            clear hXY hYck hd0
            go_upto_region 13 with fail
            go_quiet ((go_at_call 53; exact Calls.quiet_of_same ((HRv.out _).mono fun _ _ h => ⟨h.1, h.2.symm⟩)))
            have HKq := Lib.hid (HKr.out.drewN nq)
            have hR5 := HRf4.out.kept HKq.out (fun h => h)
            have c1 : (wr.drewN nq).cell? ⟨R, 1, none⟩ = some (.int .i64 p) := by simpa using obj_cell hR5.1 1
            have f1 : (wr.drewN nq).frozen? ⟨R, 1, none⟩ = false := obj_free hR5.1 1
            have HR5 := Lib.hid hR5
            clear hR5
            go_wp2
            go_ret2
            have e9 : ((p : Int) + (k : Int)) = ((p + k : Nat) : Int) := by omega
            rw [e9]
            exact ⟨i, 0, rfl, p + k, HF.out, HR5.out.moved (Kept.refl _ _) (by omega), Kept.setCell (S := OneB R) (p := ⟨R, 1, none⟩) (HK.out.trans (HKq.out.mono (fun _ _ h => h.elim))) (.inl rfl) _⟩
          · have q1 : ((X : Int) != (ck : Int)) = true := by simp; omega
            have HA := Lib.hid (HNs.out (.inr (.inr ⟨by omega, by rw [HCk.out, ← hYck, ← HXe.out]; omega⟩)))
            clear hXY hYck hd0
            go_upto_region 13 with fail
            go_quiet ((go_at_call 53; exact Calls.quiet_of_same ((HRv.out _).mono fun _ _ h => ⟨h.1, h.2.symm⟩)))
            have HKq := Lib.hid (HKr.out.drewN nq)
            go_wp2
            go_roundw
            case rel => exact ⟨i + 1, o, by go_num, rfl, by omega, HB.out, HA.out, HKq⟩
            case measure => simp [intOf]; omega
    · have hin2 : i = n := by omega
      subst hin2
      have hno : ∀ m, 1 ≤ m → m ≤ T → NoAt ls v m := fun m h1 h2 j hj hzj => HNo.out j m (by have := HN.out; omega) hzj h1 h2
      have hop := HOp.out hno
      have hoo : o = true ↔ (kindS ls = 3 ∨ (T = 0 ∧ 0 < sN (cnt0 ls) 16)) := by
        rw [HO.out, ← hop, HN.out]
      have hF : ∀ f : Int, f = (if o = true then 2 else 3) → ReadS ls T v p 0 f p := fun f hf => .inr ⟨hno, rfl, by rw [hf]; by_cases h : o = true <;> simp [h, ← hoo], rfl⟩
      have HF := Lib.hid hF
      clear hno hop hoo hF
      cases o with
      | true =>
        have HF2 := Lib.hid (HF.out 2 rfl)
        go_wp2
        go_ret2
        exact ⟨0, 2, rfl, _, HF2.out, HRf4.out.kept HKr.out (fun h => h), HK.out.trans (HKr.out.mono (fun _ _ h => h.elim))⟩
      | false =>
        have HF2 := Lib.hid (HF.out 3 rfl)
        go_wp2
        go_ret2
        exact ⟨0, 3, rfl, _, HF2.out, HRf4.out.kept HKr.out (fun h => h), HK.out.trans (HKr.out.mono (fun _ _ h => h.elim))⟩
end Go.Proofs.YtdpegahcgaicnaaGreatDoor
