/-
  What is put for tokens, as a function of them; the document's LenSym and DistSym tell just its parts.
  The document's Codes.
  Numbers appended onto an own row, in a plain region; apart from the texts on least costs.
  The document's Fixed.
-/
import Derived.Test.YtdpegahcgaicnaaGreatDoorMf27
namespace Go.Proofs.YtdpegahcgaicnaaGreatDoor
open Go.RowKit
set_option linter.unusedVariables false
set_option linter.unusedSimpArgs false
set_option maxRecDepth 20000

def litX (t : Tk) : Nat := if t.l = 258 then 0 else le4 (lastI lb 27 t.l.toNat)
def litV (t : Tk) : Nat := if t.l = 258 then 0 else t.l.toNat - lb (lastI lb 27 t.l.toNat)
def distV (t : Tk) : Nat := t.d.toNat - db (distSy t)
def tokWd (lit dist : List Int) (t : Tk) : List (Nat × Nat) :=
  if t.l = 0 then [wordZ lit t.c] else [wordZ lit ((litSy t : Nat) : Int), (litV t, litX t), wordZ dist ((distSy t : Nat) : Int), (distV t, de (distSy t))]
theorem sy_long {j u : Nat} (hj : j < 30) (hu : u < 2 ^ de j) : litSy ⟨258, ((db j + u : Nat) : Int), 0⟩ = 285 ∧ litV ⟨258, ((db j + u : Nat) : Int), 0⟩ = 0 ∧ litX ⟨258, ((db j + u : Nat) : Int), 0⟩ = 0 ∧ distSy ⟨258, ((db j + u : Nat) : Int), 0⟩ = j ∧ distV ⟨258, ((db j + u : Nat) : Int), 0⟩ = u := by
  have hd : distSy ⟨258, ((db j + u : Nat) : Int), 0⟩ = j := by unfold distSy; rw [Int.toNat_natCast]; exact db_last hj hu
  refine ⟨rfl, rfl, rfl, hd, ?_⟩
  unfold distV
  rw [hd, Int.toNat_natCast]; omega
theorem sy_copy {i v j u : Nat} (hi : i < 28) (hv : v < 2 ^ le4 i) (hlv : lb i + v ≤ 257) (hj : j < 30) (hu : u < 2 ^ de j) : litSy ⟨((lb i + v : Nat) : Int), ((db j + u : Nat) : Int), 0⟩ = 257 + i ∧ litV ⟨((lb i + v : Nat) : Int), ((db j + u : Nat) : Int), 0⟩ = v ∧
    litX ⟨((lb i + v : Nat) : Int), ((db j + u : Nat) : Int), 0⟩ = le4 i ∧ distSy ⟨((lb i + v : Nat) : Int), ((db j + u : Nat) : Int), 0⟩ = j ∧ distV ⟨((lb i + v : Nat) : Int), ((db j + u : Nat) : Int), 0⟩ = u := by
  have h3 := lb_top i hi
  have hd : distSy ⟨((lb i + v : Nat) : Int), ((db j + u : Nat) : Int), 0⟩ = j := by unfold distSy; rw [Int.toNat_natCast]; exact db_last hj hu
  have hn : ¬ ((lb i + v : Nat) : Int) = 258 := by omega
  refine ⟨?_, ?_, ?_, hd, ?_⟩
  · unfold litSy
    rw [if_neg (by simp only; omega), if_neg (by simp only; omega), Int.toNat_natCast, lb_last hi hv]
  · unfold litV
    rw [if_neg hn, Int.toNat_natCast, lb_last hi hv]; omega
  · unfold litX
    rw [if_neg hn, Int.toNat_natCast, lb_last hi hv]
  · unfold distV
    rw [hd, Int.toNat_natCast]; omega
theorem TokW.eq {lit dist : List Int} {t : Tk} {ws : List (Nat × Nat)} (h : TokW lit dist t ws) : ws = tokWd lit dist t := by
  cases h with
  | one c _ _ _ => rfl
  | long j u hj hu _ _ =>
    obtain ⟨e1, e2, e3, e4, e5⟩ := sy_long hj hu
    unfold tokWd
    rw [if_neg (show ¬ (258 : Int) = 0 by decide), e1, e2, e3, e4, e5]
    rfl
  | copy i v j u hi hv hlv hj hu _ _ =>
    have h3 := lb_top i hi
    obtain ⟨e1, e2, e3, e4, e5⟩ := sy_copy hi hv hlv hj hu
    unfold tokWd
    rw [if_neg (by simp only; omega), e1, e2, e3, e4, e5]
theorem TokWs.eq {lit dist : List Int} {ts : List Tk} {ws : List (Nat × Nat)} (h : TokWs lit dist ts ws) : ws = ts.flatMap (tokWd lit dist) := by
  induction h with
  | nil => rfl
  | cons a _ ih => rw [List.flatMap_cons, ← a.eq, ← ih]
theorem rlen_det {n i v : Nat} (hi : i < 28) (hv : v < 2 ^ le4 i) (hn : n = lb i + v) (hn2 : n ≤ 257) {k : Nat} (hk : k ≤ 28) (h1 : bX k ≤ n) (h2 : ∀ m, k < m → m ≤ 28 → n < bX m) : k = i := by
  have h28 : bX 28 = 258 := by decide
  by_cases hk28 : k = 28
  · subst hk28; omega
  · have hk3 : k < 28 := by omega
    have hbi : bX i = lb i := by unfold bX; rw [if_pos hi]
    have hbk : bX k = lb k := by unfold bX; rw [if_pos hk3]
    by_cases c1 : k < i
    · have := h2 i c1 (by omega); omega
    · by_cases c2 : i < k
      · have := lb_next k hk3 i hi c2; omega
      · omega
/-- A copy's parts, and that the document tells them. -/
theorem doc_parts {t : Tk} (hcp : (∃ j u, j < 30 ∧ u < 2 ^ de j ∧ t = ⟨258, ((db j + u : Nat) : Int), 0⟩) ∨ (∃ i v j u, i < 28 ∧ v < 2 ^ le4 i ∧ lb i + v ≤ 257 ∧ j < 30 ∧ u < 2 ^ de j ∧ t = ⟨((lb i + v : Nat) : Int), ((db j + u : Nat) : Int), 0⟩)) :
    ∃ (n d sy X v j u : Nat), t = ⟨(n : Int), (d : Int), 0⟩ ∧ 1 ≤ n ∧ 257 ≤ sy ∧ sy < 286 ∧ X ≤ 5 ∧ v < 2 ^ X ∧ j < 30 ∧ de j ≤ 13 ∧ u < 2 ^ de j ∧ litSy t = sy ∧ distSy t = j ∧ (∀ lit dist, tokWd lit dist t = [wordZ lit (sy : Int), (v, X), wordZ dist (j : Int), (u, de j)]) ∧
    (∀ W, Calls Tryz.prog 27 #[.int .i64 (n : Int)] W fun e w' => e = .returned (.tuple #[.int .i64 (sy : Int), .int .i64 (X : Int), .int .u32 (v : Int)]) ∧ Kept NoB W w') ∧
    (∀ W, Calls Tryz.prog 28 #[.int .i64 (d : Int)] W fun e w' => e = .returned (.tuple #[.int .i64 (j : Int), .int .i64 ((de j : Nat) : Int), .int .u32 (u : Int)]) ∧ Kept NoB W w') := by
  have hdist : ∀ {j u : Nat}, j < 30 → u < 2 ^ de j → ∀ W, Calls Tryz.prog 28 #[.int .i64 ((db j + u : Nat) : Int)] W fun e w' => e = .returned (.tuple #[.int .i64 (j : Int), .int .i64 ((de j : Nat) : Int), .int .u32 (u : Int)]) ∧ Kept NoB W w' := by
    intro j u hj hu W
    have ht := db_top j hj
    refine (rdistSym_any (db j + u) W (by omega)).mono ?_
    rintro e w' ⟨k, hk, h1, h2, rfl, hk2⟩
    have e1 : k = j := by
      by_cases c1 : k < j
      · have := h2 j c1 (by omega); omega
      · by_cases c2 : j < k
        · have := db_next k (by omega) j hj c2; omega
        · omega
    subst e1
    exact ⟨by rw [show db k + u - db k = u by omega], hk2⟩
  rcases hcp with ⟨j, u, hj, hu, rfl⟩ | ⟨i, v, j, u, hi, hv, hlv, hj, hu, rfl⟩
  · obtain ⟨e1, e2, e3, e4, e5⟩ := sy_long hj hu
    have ht := db_top j hj
    refine ⟨258, db j + u, 285, 0, 0, j, u, rfl, by decide, by decide, by decide, by decide, by decide, hj, ht.2.2, hu, e1, e4, ?_, fun W => ?_, hdist hj hu⟩
    · intro lit dist
      unfold tokWd
      rw [if_neg (show ¬ (258 : Int) = 0 by decide), e1, e2, e3, e4, e5]
    · refine (rlenSym_any 258 W (by decide)).mono ?_
      rintro e w' ⟨k, hk, h1, h2, rfl, hk2⟩
      have e1 : k = 28 := by
        by_cases hk28 : k < 28
        · have := h2 28 hk28 (by omega)
          have h28 : bX 28 = 258 := by decide
          omega
        · omega
      subst e1
      exact ⟨rfl, hk2⟩
  · have h3 := lb_top i hi
    have ht := db_top j hj
    obtain ⟨e1, e2, e3, e4, e5⟩ := sy_copy hi hv hlv hj hu
    refine ⟨lb i + v, db j + u, 257 + i, le4 i, v, j, u, rfl, by omega, by omega, by omega, h3.2.2.2, hv, hj, ht.2.2, hu, e1, e4, ?_, fun W => ?_, hdist hj hu⟩
    · intro lit dist
      unfold tokWd
      rw [if_neg (by simp only; omega), e1, e2, e3, e4, e5]
    · refine (rlenSym_any (lb i + v) W (by omega)).mono ?_
      rintro e w' ⟨k, hk, h1, h2, rfl, hk2⟩
      have e1 : k = i := rlen_det hi hv rfl hlv hk h1 h2
      subst e1
      have hbk : bX k = lb k := by unfold bX; rw [if_pos hi]
      have hek : eX k = le4 k := by unfold eX; rw [if_pos hi]
      exact ⟨by rw [hbk, hek, show lb k + v - lb k = v by omega], hk2⟩
end Go.Proofs.YtdpegahcgaicnaaGreatDoor

namespace Go.Proofs.YtdpegahcgaicnaaGreatDoor
open Go.RowKit
set_option linter.unusedVariables false
set_option linter.unusedSimpArgs false

/-- The codes of all lengths below m, and of the first i places of length m. -/
def outP (ls : List Int) (m i : Nat) : List Int := (List.range ls.length).map (fun p : Nat => if 0 < ls.getD p 0 ∧ (ls.getD p 0 < (m : Int) ∨ (ls.getD p 0 = (m : Int) ∧ p < i)) then codeAt ls p else 0)
theorem outP_len (ls : List Int) (m i : Nat) : (outP ls m i).length = ls.length := by simp [outP]
theorem outP_zero (ls : List Int) : outP ls 1 0 = List.replicate ls.length 0 := by
  apply List.ext_getElem (by simp [outP])
  intro p h1 h2
  simp only [outP, List.getElem_map, List.getElem_range, List.getElem_replicate]
  rw [if_neg (by omega)]
theorem outP_set (ls : List Int) (m i : Nat) (hm : 1 ≤ m) (h : i < ls.length) (hz : ls.getD i 0 = (m : Int)) : outP ls m (i + 1) = (outP ls m i).set i (codeAt ls i) := by
  apply List.ext_getElem (by simp [outP])
  intro p h1 h2
  rw [List.getElem_set]
  simp only [outP, List.getElem_map, List.getElem_range]
  by_cases e : i = p
  · subst e
    rw [if_pos rfl, if_pos ⟨by omega, .inr ⟨hz, by omega⟩⟩]
  · rw [if_neg e]
    by_cases h3 : 0 < ls.getD p 0 ∧ (ls.getD p 0 < (m : Int) ∨ (ls.getD p 0 = (m : Int) ∧ p < i))
    · rw [if_pos h3, if_pos ⟨h3.1, by omega⟩]
    · rw [if_neg h3, if_neg (fun h4 => h3 ⟨h4.1, by omega⟩)]
theorem outP_same (ls : List Int) (m i : Nat) (hz : ¬ ls.getD i 0 = (m : Int)) : outP ls m (i + 1) = outP ls m i := by
  unfold outP
  apply List.map_congr_left
  intro p _
  by_cases e : p = i
  · subst e
    by_cases h3 : 0 < ls.getD p 0 ∧ ls.getD p 0 < (m : Int)
    · rw [if_pos ⟨h3.1, .inl h3.2⟩, if_pos ⟨h3.1, .inl h3.2⟩]
    · rw [if_neg (fun h4 => h3 ⟨h4.1, by omega⟩), if_neg (fun h4 => h3 ⟨h4.1, by omega⟩)]
  · by_cases h3 : 0 < ls.getD p 0 ∧ (ls.getD p 0 < (m : Int) ∨ (ls.getD p 0 = (m : Int) ∧ p < i))
    · rw [if_pos h3, if_pos ⟨h3.1, by omega⟩]
    · rw [if_neg h3, if_neg (fun h4 => h3 ⟨h4.1, by omega⟩)]
theorem outP_next (ls : List Int) (m : Nat) : outP ls m ls.length = outP ls (m + 1) 0 := by
  unfold outP
  apply List.map_congr_left
  intro p hp
  have hpl := List.mem_range.1 hp
  by_cases h3 : 0 < ls.getD p 0 ∧ (ls.getD p 0 < (m : Int) ∨ (ls.getD p 0 = (m : Int) ∧ p < ls.length))
  · rw [if_pos h3, if_pos ⟨h3.1, by omega⟩]
  · rw [if_neg h3, if_neg (fun h4 => h3 ⟨h4.1, by omega⟩)]
theorem outP_all (ls : List Int) (hs : Small 15 ls) : outP ls 16 0 = codesL ls := by
  unfold outP codesL codesP
  apply List.map_congr_left
  intro p hp
  have hpl := List.mem_range.1 hp
  have hb := hs.getD p hpl
  rw [if_pos hpl]
  by_cases h0 : 0 < ls.getD p 0
  · rw [if_pos ⟨h0, by omega⟩]
  · rw [if_neg (fun h => h0 h.1)]; unfold codeAt; rw [if_neg h0]
/-- The code that the document's way has when it comes to length m. -/
def codeB (ls : List Int) (m : Nat) : Int := if m ≤ 1 then 0 else fC (cntsL ls) (m - 1) + ((ls.count ((m - 1 : Nat) : Int) : Nat) : Int)
theorem codeB_twice (ls : List Int) (m : Nat) (hm : 1 ≤ m) (h16 : m ≤ 16) : codeB ls m * 2 = fC (cntsL ls) m := by
  unfold codeB
  by_cases h : m ≤ 1
  · have : m = 1 := by omega
    subst this
    rw [if_pos (by omega)]; rfl
  · obtain ⟨k, rfl⟩ : ∃ k, m = k + 1 := ⟨m - 1, by omega⟩
    rw [if_neg h, Nat.add_sub_cancel, fC_succ _ k (by omega), cnts_get _ _ (by omega)]
theorem codeB_next (ls : List Int) (m : Nat) (hm : 1 ≤ m) : codeB ls (m + 1) = fC (cntsL ls) m + ((ls.count (m : Int) : Nat) : Int) := by
  unfold codeB
  rw [if_neg (by omega), Nat.add_sub_cancel]
theorem codeB_bd (ls : List Int) (hl : ls.length ≤ 320) (m : Nat) (h16 : m ≤ 16) : 0 ≤ codeB ls m ∧ codeB ls m ≤ 60000000 := by
  unfold codeB
  split
  · omega
  · have h1 := fC_bd (cntsL ls) (cnts_bd ls hl) (m - 1) (by omega)
    have h2 := List.count_le_length (l := ls) (a := ((m - 1 : Nat) : Int))
    omega

theorem rcodes_no (a : Option Addr) (c B : Nat) (ls : List Int) (w : World) (hr : RdI w B a ls) (hall : AllI ls) (hl9 : ls.length ≤ 1000000) (h : errS ls ≠ 0) :
    Calls Tryz.prog 52 #[.slice a ls.length c] w fun e w' => e = .returned (.tuple #[.slice none 0 0, .int .i64 (errS ls)]) ∧ Kept NoB w w' := by
  have HCt := Lib.hid (rkind_any a c B ls w hr hall hl9)
  have hR : ∀ k, kindA ls = k → errS ls = if k = 0 then 1 else if k = 4 ∨ k = 5 then 3 else 0 := fun k h => by unfold errS; rw [h]
  have HR := Lib.hid hR
  obtain ⟨R, hRe⟩ : ∃ R, R = errS ls := ⟨_, rfl⟩
  rw [← hRe] at HR h ⊢
  obtain ⟨n, hn⟩ : ∃ n, n = ls.length := ⟨_, rfl⟩
  rw [← hn] at HCt ⊢
  clear hr hR hRe hn hall hl9
  rcases kindA_of ls with h1 | h1 | h1 | h1 | h1 | h1
  all_goals
    rw [h1] at HCt
    have hk := HR.out _ h1
    simp only [Int.reduceEq, or_false, or_true, if_true, if_false, or_self, false_or, true_or] at hk
    first
      | exact absurd hk h
      | (have HK := Lib.hid hk
         clear h1 hk HR h
         go_enter Tryz.func52, Tryz.ntmps52
         go_wp2_with fail
         refine HCt.out.mono ?_
         rintro e w1 ⟨rfl, hk⟩
         have HK1 := Lib.hid hk
         clear hk
         go_wp2
         go_ret2
         exact ⟨by rw [HK.out]; rfl, HK1.out⟩)

set_option maxRecDepth 20000 in
set_option maxHeartbeats 3000000 in
theorem rcodes_yes (a : Option Addr) (c B : Nat) (ls : List Int) (w : World) (hr : RdI w B a ls) (hall : AllI ls) (h : errS ls = 0) :
    Calls Tryz.prog 52 #[.slice a ls.length c] w (CodesP w (codesL ls)) := by
  obtain ⟨hmay, _⟩ := err_ok h
  have hl := hmay.len
  have hs := hmay.small
  have HCt := Lib.hid (rkind_any a c B ls w hr hall (by omega))
  have hkk : kindA ls = 1 ∨ kindA ls = 2 ∨ kindA ls = 3 := by
    have h1 := kindA_of ls
    unfold errS at h
    by_cases h0 : kindA ls = 0
    · rw [if_pos h0] at h; omega
    · rw [if_neg h0] at h
      by_cases h4 : kindA ls = 4 ∨ kindA ls = 5
      · rw [if_pos h4] at h; omega
      · omega
  obtain ⟨kd, hkd⟩ : ∃ kd, kd = kindA ls := ⟨_, rfl⟩
  rw [← hkd] at HCt hkk
  have k0 : (kd == 0) = false := by simp; omega
  have k4 : (kd == 4) = false := by simp; omega
  have k5 : (kd == 5) = false := by simp; omega
  have HR := Lib.hid hr; have HS := Lib.hid hs
  obtain ⟨Z, hZ⟩ : ∃ Z, Z = codesL ls := ⟨_, rfl⟩
  have HZ := Lib.hid hZ
  rw [← hZ]
  obtain ⟨n, hn⟩ : ∃ n, n = ls.length := ⟨_, rfl⟩
  have HN := Lib.hid hn
  rw [← hn] at hl HCt ⊢
  obtain ⟨i0, hi, hz0, hz1, hz2⟩ := info_parts infoU
  clear hr hs hn hZ hkd hkk h hmay hall
  go_enter Tryz.func52, Tryz.ntmps52
  go_wp2_with fail
  refine HCt.out.mono ?_
  rintro e w1 ⟨rfl, hk⟩
  have HK1 := Lib.hid hk
  clear hk
  go_wp2_with (at_make; refine wpList_make_full _ rfl _ _ _ rfl 0 47 i0 (.int .u32 0) 1 Tryz.underlying91 hi hz0 hz1 .i64 .i64 _ _ n rfl rfl rfl rfl (by rw [hz2]; omega) (by unfold maxLen; omega) (Nat.zero_le _) ?_)
  intro w4 hown hgrow
  rw [toList_madeCells_one] at hown
  have hk34 : Kept NoB w1 w4 := (Kept.refl _ _).grown hgrow (fun k _ e => by cases e)
  have hown0 : w4.ownsRow 0 47 1 (.slice (some ⟨w1.heap.size, 0, none⟩) n n) n ((outP ls 1 0).map (.int .u32)) := by
    rw [outP_zero, ← HN.out, List.map_replicate]; exact hown
  have HK6 := Lib.hid (HK1.out.trans hk34); have HO := Lib.hid hown0
  have hwW := HK1.out.size
  obtain ⟨D, hD⟩ : ∃ D, D = w1.heap.size := ⟨_, rfl⟩
  rw [← hD] at HO hwW ⊢
  have HD := Lib.hid hwW
  clear hown hgrow hk34 hown0 hD hwW k0 k4 k5
  go_wp2
  go_loopw [6, 5, 7] (fun v6 v5 _v7 wr => ∃ (m : Nat), v6 = .int .i64 (m : Int) ∧ v5 = .int .u32 (codeB ls m) ∧ 1 ≤ m ∧ m ≤ 16 ∧ Hid (wr.ownsRow 0 47 1 (.slice (some ⟨D, 0, none⟩) n n) n ((outP ls m 0).map (.int .u32))) ∧ Hid (Kept NoB w wr)) (fun v6 _ _ _ => 17 - (intOf v6).toNat)
  case atStart => exact ⟨1, rfl, rfl, by omega, by omega, HO, HK6⟩
  case round =>
    clear HO HK6
    obtain ⟨m, rfl, rfl, hm1, hm16, HO, HK⟩ := hrel
    have hl3 : ls.length ≤ 320 := by rw [← HN.out]; exact hl
    by_cases hlt : (m : Int) ≤ 15
    · have hb := codeB_bd ls hl3 m hm16
      have htw := codeB_twice ls m hm1 hm16
      obtain ⟨x, hx⟩ : ∃ x, x = codeB ls m := ⟨_, rfl⟩
      rw [← hx] at hb htw ⊢
      clear hx
      go_wp2
      clear htw
      go_loopw [7, 5] (fun v7 v5 wr => ∃ (j : Nat), v7 = .int .i64 (j : Int) ∧ v5 = .int .u32 (fC (cntsL ls) m + (((ls.take j).count (m : Int) : Nat) : Int)) ∧ j ≤ n ∧ Hid (wr.ownsRow 0 47 1 (.slice (some ⟨D, 0, none⟩) n n) n ((outP ls m j).map (.int .u32))) ∧ Hid (Kept NoB w wr)) (fun v7 _ _ => n - (intOf v7).toNat)
      case atStart => exact ⟨0, rfl, by simp, by omega, HO, HK⟩
      case round =>
        clear HO HK
        obtain ⟨j, rfl, rfl, hjn, HO, HK⟩ := hrel
        have hfb := fC_bd (cntsL ls) (cnts_bd ls hl3) m hm16
        have hcl := List.count_le_length (l := ls.take j) (a := (m : Int))
        rw [List.length_take] at hcl
        by_cases hlt2 : (j : Int) < n
        · have hjl : j < ls.length := by have := HN.out; omega
          obtain ⟨g, off, rfl, _, hc0⟩ := HR.out j hjl
          have hc := HK.out.cell hc0
          have hbz := HS.out.getD j hjl
          by_cases hzm : ls.getD j 0 = (m : Int)
          · have hset := outP_set ls m j hm1 hjl hzm
            have hcode : codeAt ls j = fC (cntsL ls) m + (((ls.take j).count (m : Int) : Nat) : Int) := by
              unfold codeAt; rw [if_pos (by omega), hzm, Int.toNat_natCast]
            have hnext : (ls.take (j + 1)).count (m : Int) = (ls.take j).count (m : Int) + 1 := by
              have := count_step ls j hjl
              rw [hzm] at this; exact this.symm
            have hud : ∃ u, wr.cell? ⟨D, j, none⟩ = some u := by
              rw [HO.out.cellAt j (by omega)]
              exact ⟨_, List.getElem?_eq_getElem (by simp [outP_len]; omega)⟩
            obtain ⟨u, hu⟩ := hud
            have hfd := HO.out.frozenAt j
            obtain ⟨y, hy⟩ : ∃ y, y = fC (cntsL ls) m + (((ls.take j).count (m : Int) : Nat) : Int) := ⟨_, rfl⟩
            have hyn : fC (cntsL ls) m + (((ls.take (j + 1)).count (m : Int) : Nat) : Int) = y + 1 := by rw [hnext, hy]; omega
            have hyb : 0 ≤ y ∧ y ≤ 60000000 := by omega
            rw [← hy] at hcode ⊢
            obtain ⟨s1, _⟩ := HO.out.stored j (.int .u32 y)
            rw [← List.map_set, ← hcode, ← hset] at s1
            have hK2 : Kept NoB w (wr.setCell ⟨D, j, none⟩ (.int .u32 y)) := Kept.setCell (p := ⟨D, j, none⟩) HK.out (.inr HD.out) _
            rw [hcode] at s1
            have HO2 := Lib.hid s1; have HK2 := Lib.hid hK2; have HYn := Lib.hid hyn
            rw [hzm] at hc
            have ew : IntKind.u32.wrap (y + 1) = y + 1 := IntWalk.u32_in _ (by omega)
            clear hset hcode hnext hy hyn s1 hK2 hfb hcl hc0 hzm hbz hjl
            go_wp2
            go_roundw
            case rel => exact ⟨j + 1, by go_num, by rw [HYn.out], by omega, HO2, HK2⟩
            case measure => simp [intOf]; omega
          · have hsame := outP_same ls m j hzm
            have hnext : (ls.take (j + 1)).count (m : Int) = (ls.take j).count (m : Int) := by
              rw [take_snoc ls j hjl, List.count_append]
              have : (ls.getD j 0 == (m : Int)) = false := by simpa using hzm
              simp only [List.count_singleton, this]; simp
            have hO := HO.out
            rw [← hsame] at hO
            have HO2 := Lib.hid hO
            have HNx := Lib.hid hnext
            obtain ⟨z, hz⟩ : ∃ z, z = ls.getD j 0 := ⟨_, rfl⟩
            rw [← hz] at hc hzm
            have g1 : (z == (m : Int)) = false := by simpa using hzm
            clear hsame hnext hO hfb hcl hc0 hbz hz
            go_wp2
            go_roundw
            case rel => exact ⟨j + 1, by go_num, by rw [HNx.out], by omega, HO2, HK⟩
            case measure => simp [intOf]; omega
        · have hjn2 : j = n := by omega
          subst hjn2
          have htk : ls.take j = ls := List.take_of_length_le (by have := HN.out; omega)
          have hO := HO.out
          have e1 := outP_next ls m
          rw [← HN.out] at e1
          rw [e1] at hO
          have HO2 := Lib.hid hO
          have hcb := codeB_next ls m hm1
          rw [htk, ← hcb]
          clear htk hO e1 hcb hfb hcl
          go_wp2
          go_roundw
          case rel => exact ⟨m + 1, by go_num, rfl, by omega, by omega, HO2, HK⟩
          case measure => simp [intOf]; omega
    · have hm : m = 16 := by omega
      subst hm
      have hzl : Z.length = n := by rw [HZ.out]; unfold codesL; rw [codesP_len]; exact HN.out.symm
      have hO := HO.out
      rw [outP_all ls HS.out, ← HZ.out] at hO
      have HOf := Lib.hid hO; have HZl := Lib.hid hzl
      clear hzl hO HO
      go_wp2
      go_ret2
      exact ⟨some ⟨D, 0, none⟩, n, by rw [HZl.out]; rfl, by rw [HZl.out]; exact HOf.out, HK.out⟩
end Go.Proofs.YtdpegahcgaicnaaGreatDoor

namespace Go.Proofs.YtdpegahcgaicnaaGreatDoor
open Go.RowKit
set_option linter.unusedVariables false
set_option linter.unusedSimpArgs false

theorem emp_sa {w0 w : World} (hk : Kept NoB w0 w) (k : Nat) (he : k = w.heap.size) : IntSt w0 (w.alloc (.cells #[] 3)) (some ⟨k, 0, none⟩) 0 0 [] := by
  subst he; exact ⟨rfl, World.ownsRow_lit w #[] 0 (Nat.zero_le _) (Nat.zero_le _) rfl, hk.alloc _, fun k e => by have := hk.size; simp [Value.ownBlock] at e; omega⟩
theorem IntSt.onK {w0 w1 w2 : World} {a : Option Addr} {l c : Nat} {zs : List Int} (h : IntSt w0 w1 a l c zs) (k : Kept NoB w1 w2) : IntSt w0 w2 a l c zs :=
  ⟨h.len, k.row h.own (fun _ _ h => h), h.kept.trans k, h.fresh⟩
/-- Numbers appended to an own row, in a region in its own order. -/
theorem wpList_intsA {ops : Array Oper} {rest : List Oper} {o : Oper} {a : Act} {w : World} {Q : Exit → Act → World → Prop} (hgd : o.guard = none) (s x : Operand)
    (ho : o.op = .call { callee := .builtin .append, args := #[s, x], argTypes := #[23, 23] })
    {w0 : World} {a1 : Option Addr} {l1 c1 : Nat} {zs : List Int} (hS : IntSt w0 w a1 l1 c1 zs) (hs : a.eval s = .slice a1 l1 c1)
    (ad : Addr) (m c : Nat) (news : List Int) (hx : a.eval x = .slice (some ad) m c) (hl : news.length = m) (hnews : ∀ j u, (news.map (Value.int .i64))[j]? = some u → w.cell? (ad.add j) = some u) (h63 : l1 + m ≤ 100000)
    (h : ∀ a2 c2 w', IntSt w0 w' a2 (l1 + m) c2 (zs ++ news) → Kept (OwnB (Value.slice a1 l1 c1)) w w' → wpList Tryz.prog ops Q rest (a.put o.dst (.slice a2 (l1 + m) c2)) w') : wpList Tryz.prog ops Q (o :: rest) a w := by
  obtain ⟨i0, hi, hz0, hz1, hz2⟩ := info_parts infoI
  refine wpList_app w hgd s x 23 ho 3 i0 (.int .i64 0) 1 8 (by kernel_rfl) hi hz0 hz1 hz2 rfl (by decide) _ l1 (zs.map (.int .i64)) hs hS.own ad m c (news.map (.int .i64)) hx (by rw [List.length_map, hl, Nat.mul_one]) hnews (fun u hu => by obtain ⟨y, _, rfl⟩ := List.mem_map.1 hu; rfl) (by unfold maxLen; omega) (by omega) ?_
  intro v' w' h2 h3 h4
  obtain ⟨a2, c2, rfl⟩ := own_shape2 h2
  refine h _ _ _ ⟨by rw [List.length_append, hS.len, hl], by rw [List.map_append]; exact h2, hS.kept.grown h3 (fun k hk e => by have := hS.fresh k e; omega), ?_⟩ ?_
  intro k hk
  rcases h4 k hk with h | h
  · exact hS.fresh k h
  · have := hS.kept.size; omega
  · exact (Kept.refl _ w).grown h3 (fun k hk e => e)
theorem IntSt.allocA {w0 w : World} {a : Option Addr} {l c : Nat} {zs : List Int} (h : IntSt w0 w a l c zs) (o : Obj) : IntSt w0 (w.alloc o) a l c zs :=
  ⟨h.len, (Kept.refl NoB w).alloc o |>.row h.own (fun _ _ h => h), h.kept.alloc o, h.fresh⟩
end Go.Proofs.YtdpegahcgaicnaaGreatDoor

namespace Go.Proofs.YtdpegahcgaicnaaGreatDoor
open Go.RowKit
set_option linter.unusedVariables false
set_option linter.unusedSimpArgs false

theorem take_snocI (L : List Int) (j : Nat) (h : j < L.length) (z : Int) (hz : L.getD j 0 = z) : L.take j ++ [z] = L.take (j + 1) := by
  rw [List.take_add_one, ← hz, List.getElem?_eq_getElem h]
  simp [List.getD, h]
set_option maxRecDepth 20000 in
set_option maxHeartbeats 4000000 in
theorem rfixed_new (w : World) : Calls Tryz.prog 51 #[] w fun e w' => ∃ a c b d, e = .returned (.tuple #[.slice a 288 c, .slice b 32 d]) ∧ ∃ w1, IntSt w w1 a 288 c fixL ∧ IntSt w1 w' b 32 d fixD := by
  go_enter Tryz.func51, Tryz.ntmps51
  go_wp2_with fail
  go_loopw [2, 4, 5] (fun u i _n wr => ∃ (j : Nat) (a : Option Addr) (c : Nat), j ≤ 288 ∧ i = .int .i64 j ∧ u = .slice a j c ∧ Hid (IntSt w wr a j c (fixL.take j))) (fun _ i _ _ => 288 - (intOf i).toNat)
  case atStart => exact ⟨0, none, 0, by omega, rfl, rfl, IntSt.nil w⟩
  case round =>
    obtain ⟨j, a, c, hj, rfl, rfl, HS⟩ := hrel
    by_cases hlt : (j : Int) < 288
    · have hg := fixL_get j (by omega)
      obtain ⟨z, hz⟩ : ∃ z, z = fixL.getD j 0 := ⟨_, rfl⟩
      have HSn := Lib.hid (take_snocI fixL j (by rw [fixL_len]; omega) z hz.symm)
      rw [← hz] at hg
      clear hz
      have hstep : ∀ (a2 : Option Addr) (c2 : Nat) (w2 : World), IntSt w w2 a2 (j + 1) c2 (fixL.take j ++ [z]) → Hid (IntSt w w2 a2 (j + 1) c2 (fixL.take (j + 1))) := fun a2 c2 w2 h => by rw [← HSn.out]; exact h
      have HSt := Lib.hid hstep
      clear hstep
      by_cases h1 : (j : Int) < 144
      · obtain rfl : z = 8 := by rw [hg, if_pos (by omega)]
        have g1 : ¬ (144 : Int) ≤ (j : Int) := by omega
        have g2 : ¬ (256 : Int) ≤ (j : Int) := by omega
        clear hg
        go_wp2_with (at_builtin; refine wpList_intsA rfl _ _ rfl (HS.out.allocA _) rfl ⟨wr.heap.size, 0, none⟩ 1 1 [8] rfl rfl (cell_one_new _ _ _) (by omega) ?_)
        intro a2 c2 w2 hs2 _
        have HS2 := HSt.out a2 c2 w2 hs2
        clear hs2
        go_wp2
        go_roundw
        case rel => exact ⟨j + 1, a2, c2, by omega, by go_num, rfl, HS2⟩
        case measure => simp [intOf]; omega
      · by_cases h2 : (j : Int) < 256
        · obtain rfl : z = 9 := by rw [hg, if_neg (by omega), if_pos (by omega)]
          have g1 : (144 : Int) ≤ (j : Int) := by omega
          have g2 : ¬ (256 : Int) ≤ (j : Int) := by omega
          clear hg
          go_wp2_with (at_builtin; refine wpList_intsA rfl _ _ rfl (HS.out.allocA _) rfl ⟨wr.heap.size, 0, none⟩ 1 1 [9] rfl rfl (cell_one_new _ _ _) (by omega) ?_)
          intro a2 c2 w2 hs2 _
          have HS2 := HSt.out a2 c2 w2 hs2
          clear hs2
          go_wp2
          go_roundw
          case rel => exact ⟨j + 1, a2, c2, by omega, by go_num, rfl, HS2⟩
          case measure => simp [intOf]; omega
        · by_cases h3 : (j : Int) < 280
          · obtain rfl : z = 7 := by rw [hg, if_neg (by omega), if_neg (by omega), if_pos (by omega)]
            have g1 : (144 : Int) ≤ (j : Int) := by omega
            have g2 : (256 : Int) ≤ (j : Int) := by omega
            clear hg
            go_wp2_with (at_builtin; refine wpList_intsA rfl _ _ rfl (HS.out.allocA _) rfl ⟨wr.heap.size, 0, none⟩ 1 1 [7] rfl rfl (cell_one_new _ _ _) (by omega) ?_)
            intro a2 c2 w2 hs2 _
            have HS2 := HSt.out a2 c2 w2 hs2
            clear hs2
            go_wp2
            go_roundw
            case rel => exact ⟨j + 1, a2, c2, by omega, by go_num, rfl, HS2⟩
            case measure => simp [intOf]; omega
          · obtain rfl : z = 8 := by rw [hg, if_neg (by omega), if_neg (by omega), if_neg (by omega)]
            have g1 : (144 : Int) ≤ (j : Int) := by omega
            have g2 : (256 : Int) ≤ (j : Int) := by omega
            clear hg
            go_wp2_with (at_builtin; refine wpList_intsA rfl _ _ rfl (HS.out.allocA _) rfl ⟨wr.heap.size, 0, none⟩ 1 1 [8] rfl rfl (cell_one_new _ _ _) (by omega) ?_)
            intro a2 c2 w2 hs2 _
            have HS2 := HSt.out a2 c2 w2 hs2
            clear hs2
            go_wp2
            go_roundw
            case rel => exact ⟨j + 1, a2, c2, by omega, by go_num, rfl, HS2⟩
            case measure => simp [intOf]; omega
    · obtain rfl : j = 288 := by omega
      have HL : Hid (IntSt w wr a 288 c fixL) := by
        have h := HS.out
        rw [show fixL.take 288 = fixL from List.take_of_length_le (by rw [fixL_len]; omega)] at h
        exact h
      clear HS
      obtain ⟨wm, hwm⟩ : ∃ wm, wm = wr := ⟨_, rfl⟩
      rw [← hwm] at HL ⊢
      clear hwm
      go_wp2_with fail
      go_loopw [3, 6] (fun u i wr => ∃ (j : Nat) (b : Option Addr) (d : Nat), j ≤ 32 ∧ i = .int .i64 j ∧ u = .slice b j d ∧ Hid (IntSt wm wr b j d (fixD.take j))) (fun _ i _ => 32 - (intOf i).toNat)
      case atStart => exact ⟨0, none, 0, by omega, rfl, rfl, IntSt.nil wm⟩
      case round =>
        obtain ⟨j, b, d, hj, rfl, rfl, HS⟩ := hrel
        by_cases hlt : (j : Int) < 32
        · have hg := fixD_get j (by omega)
          have HSn := Lib.hid (take_snocI fixD j (by rw [fixD_len]; omega) 5 hg)
          have hstep : ∀ (a2 : Option Addr) (c2 : Nat) (w2 : World), IntSt wm w2 a2 (j + 1) c2 (fixD.take j ++ [5]) → Hid (IntSt wm w2 a2 (j + 1) c2 (fixD.take (j + 1))) := fun a2 c2 w2 h => by rw [← HSn.out]; exact h
          have HSt := Lib.hid hstep
          clear hstep hg
          go_wp2_with (at_builtin; refine wpList_intsA rfl _ _ rfl (HS.out.allocA _) rfl ⟨wr.heap.size, 0, none⟩ 1 1 [5] rfl rfl (cell_one_new _ _ _) (by omega) ?_)
          intro a2 c2 w2 hs2 _
          have HS2 := HSt.out a2 c2 w2 hs2
          clear hs2
          go_wp2
          go_roundw
          case rel => exact ⟨j + 1, a2, c2, by omega, by go_num, rfl, HS2⟩
          case measure => simp [intOf]; omega
        · obtain rfl : j = 32 := by omega
          have HD : Hid (IntSt wm wr b 32 d fixD) := by
            have h := HS.out
            rw [show fixD.take 32 = fixD from List.take_of_length_le (by rw [fixD_len]; omega)] at h
            exact h
          clear HS
          go_wp2
          go_ret2
          exact ⟨a, c, b, d, rfl, wm, HL.out, HD.out⟩
theorem rfixed_any (w : World) : Calls Tryz.prog 51 #[] w fun e w' => ∃ a c b d, e = .returned (.tuple #[.slice a 288 c, .slice b 32 d]) ∧ RdI w' w'.heap.size a fixL ∧ RdI w' w'.heap.size b fixD ∧ Kept NoB w w' :=
  (rfixed_new w).mono fun e w' h => by
    obtain ⟨a, c, b, d, rfl, w1, h1, h2⟩ := h
    exact ⟨a, c, b, d, rfl, (h1.onK h2.kept).reads, h2.reads, h1.kept.trans h2.kept⟩
end Go.Proofs.YtdpegahcgaicnaaGreatDoor
