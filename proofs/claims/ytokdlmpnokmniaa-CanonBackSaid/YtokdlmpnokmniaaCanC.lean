/-
  canon.Codes: the codes of lengths.
-/
import Derived.Test.YtokdlmpnokmniaaCanB
namespace Go.Proofs.Ytokdlmpnokmniaa
open Go.RowKit
set_option linter.unusedVariables false
set_option linter.unusedSimpArgs false

/-- The code of place i. -/
def codeAt (ls : List Int) (i : Nat) : Int :=
  if 0 < ls.getD i 0 then fC (cntsL ls) (ls.getD i 0).toNat + (((ls.take i).count (ls.getD i 0) : Nat) : Int) else 0
/-- The codes of the first j places; noughts behind them. -/
def codesP (ls : List Int) (j : Nat) : List Int := (List.range ls.length).map (fun i : Nat => if i < j then codeAt ls i else 0)
/-- The next codes, when the first j places have theirs. -/
def nextP (ls : List Int) (j : Nat) : List Int := (List.range 16).map (fun n : Nat => fC (cntsL ls) n + (if n = 0 then 0 else (((ls.take j).count (n : Int) : Nat) : Int)))
theorem nextP_len (ls : List Int) (j : Nat) : (nextP ls j).length = 16 := by simp [nextP]
theorem nextP_get (ls : List Int) (j n : Nat) (h : n < 16) : (nextP ls j).getD n 0 = fC (cntsL ls) n + (if n = 0 then 0 else (((ls.take j).count (n : Int) : Nat) : Int)) := by simp [nextP, List.getD, h]
theorem nextP_zero (ls : List Int) : nextP ls 0 = firstsP (cntsL ls) 16 := by
  apply List.ext_getElem (by simp [nextP, firstsP])
  intro i h1 h2
  have hi : i < 16 := by simpa [nextP] using h1
  simp [nextP, firstsP, hi]
theorem take_snoc (ls : List Int) (j : Nat) (h : j < ls.length) : ls.take (j + 1) = ls.take j ++ [ls.getD j 0] := by
  rw [List.take_succ_eq_append_getElem h]; simp [List.getD, h]
theorem nextP_step (ls : List Int) (j z : Nat) (h : j < ls.length) (hz : ls.getD j 0 = (z : Int)) (h1 : 1 ≤ z) (h15 : z < 16) : nextP ls (j + 1) = (nextP ls j).set z ((nextP ls j).getD z 0 + 1) := by
  obtain ⟨v, hv⟩ : ∃ v, v = (nextP ls j).getD z 0 + 1 := ⟨_, rfl⟩
  rw [← hv]
  rw [nextP_get _ _ _ h15, if_neg (by omega)] at hv
  apply List.ext_getElem (by simp [nextP])
  intro i h2 h3
  rw [List.getElem_set]
  simp only [nextP, List.getElem_map, List.getElem_range]
  rw [take_snoc ls j h, hz, List.count_append]
  by_cases e : z = i
  · subst e
    rw [if_neg (by omega), if_pos rfl, hv]
    simp; omega
  · rw [if_neg e]
    have e2 : ¬ (z : Int) = (i : Int) := by omega
    simp [List.count_cons, e2]
theorem nextP_same (ls : List Int) (j : Nat) (h : j < ls.length) (hz : ls.getD j 0 = 0) : nextP ls (j + 1) = nextP ls j := by
  apply List.ext_getElem (by simp [nextP])
  intro i h2 h3
  simp only [nextP, List.getElem_map, List.getElem_range]
  rw [take_snoc ls j h, hz, List.count_append]
  by_cases e : i = 0
  · rw [if_pos e, if_pos e]
  · have e2 : ¬ (0 : Int) = (i : Int) := by omega
    simp [List.count_cons, e2, e]
theorem codesP_len (ls : List Int) (j : Nat) : (codesP ls j).length = ls.length := by simp [codesP]
theorem codesP_zero (ls : List Int) : codesP ls 0 = List.replicate ls.length 0 := by
  apply List.ext_getElem (by simp [codesP])
  intro i h1 h2
  simp [codesP]
theorem codesP_step (ls : List Int) (j : Nat) (h : j < ls.length) : codesP ls (j + 1) = (codesP ls j).set j (codeAt ls j) := by
  apply List.ext_getElem (by simp [codesP])
  intro i h1 h2
  rw [List.getElem_set]
  simp only [codesP, List.getElem_map, List.getElem_range]
  by_cases e : j = i
  · subst e; rw [if_pos (by omega), if_pos rfl]
  · rw [if_neg e]
    by_cases h3 : i < j
    · rw [if_pos (by omega), if_pos h3]
    · rw [if_neg (by omega), if_neg h3]
theorem codesP_same (ls : List Int) (j : Nat) (h : j < ls.length) (hz : ¬ 0 < ls.getD j 0) : codesP ls (j + 1) = codesP ls j := by
  apply List.ext_getElem (by simp [codesP])
  intro i h1 h2
  simp only [codesP, List.getElem_map, List.getElem_range]
  by_cases e : j = i
  · subst e; rw [if_pos (by omega), if_neg (by omega)]; unfold codeAt; rw [if_neg hz]
  · by_cases h3 : i < j
    · rw [if_pos (by omega), if_pos h3]
    · rw [if_neg (by omega), if_neg h3]
/-- The codes. -/
def codesL (ls : List Int) : List Int := codesP ls ls.length
theorem codesL_get (ls : List Int) (i : Nat) (h : i < ls.length) : (codesL ls).getD i 0 = codeAt ls i := by simp [codesL, codesP, List.getD, h]
theorem cnts_bd (ls : List Int) (hl : ls.length ≤ 320) (n : Nat) : 0 ≤ (cntsL ls).getD n 0 ∧ (cntsL ls).getD n 0 ≤ 320 := by
  by_cases h : n < 16
  · rw [cnts_get _ _ h]
    have := List.count_le_length (l := ls) (a := (n : Int))
    omega
  · have : (cntsL ls).getD n 0 = 0 := by simp [List.getD, cnts_len, show 16 ≤ n by omega]
    omega

theorem infoU : (Try.prog.info? 31).map (fun i => (i.zero, i.size, i.bytes)) = some (some (.int .u32 0), 1, 4) := by kernel_rfl
/-- Codes told. -/
def CodesP (w : World) (zs : List Int) (e : Ending) (w' : World) : Prop :=
  ∃ a c, e = .returned (.tuple #[.slice a zs.length c, .int .i64 0]) ∧ w'.ownsRow 0 31 1 (.slice a zs.length c) zs.length (zs.map (.int .u32)) ∧ Kept NoB w w'

set_option maxRecDepth 20000 in
set_option maxHeartbeats 2000000 in
theorem codes_calls (a : Option Addr) (c B : Nat) (ls : List Int) (w : World) (hr : RdI w B a ls) (hs : Small 15 ls) (hl : ls.length ≤ 320) (hk : refS ls = 0) :
    Calls Try.prog 10 #[.slice a ls.length c] w (CodesP w (codesL ls)) := by
  have hRf := refused_calls a c B ls w hr hs hl
  rw [hk] at hRf
  have HRf := Lib.hid hRf
  have hCn : ∀ W, Kept NoB w W → Calls Try.prog 27 #[.slice a ls.length c] W fun e w' => e = .returned (.tuple #[.agg (arrC (cntsL ls)), .bool true]) ∧ Kept NoB W w' := fun W hk => counts_calls a c B ls W (hr.kept hk (fun _ _ h => h)) hs hl
  have HCn := Lib.hid hCn
  have HFi := Lib.hid (fun W => firsts_calls (cntsL ls) W (cnts_len ls) (cnts_bd ls hl))
  have HR := Lib.hid hr; have HS := Lib.hid hs
  obtain ⟨Z, hZ⟩ : ∃ Z, Z = codesL ls := ⟨_, rfl⟩
  have HZ := Lib.hid hZ
  rw [← hZ]
  obtain ⟨n, hn⟩ : ∃ n, n = ls.length := ⟨_, rfl⟩
  have HN := Lib.hid hn
  rw [← hn] at hl HRf HCn ⊢
  obtain ⟨i0, hi, hz0, hz1, hz2⟩ := info_parts infoU
  have hsz : (arrC (cntsL ls)).size = 16 := by rw [arrC_size, cnts_len]
  have hsz2 : (arrC (firstsP (cntsL ls) 16)).size = 16 := by rw [arrC_size, firstsP_len]
  clear hr hs hn hZ hCn hRf hk
  go_enter Try.func10, Try.ntmps10
  go_wp2_with fail
  refine HRf.out.mono ?_
  rintro e w1 ⟨rfl, hk⟩
  have HK1 := Lib.hid hk
  clear hk
  go_wp2_with fail
  refine (HCn.out _ HK1.out).mono ?_
  rintro e w2 ⟨rfl, hk⟩
  have HK2 := Lib.hid (HK1.out.trans hk)
  clear hk
  have hA0 : Arr16 w2.heap.size (w2.alloc (.cells (arrC zer16) 62)) zer16 := ⟨rfl, heap_alloc_new w2 _⟩
  have hst := store16 hA0 (cntsL ls) (cnts_len _)
  have hA1 := hA0.row (cntsL ls) (cnts_len _)
  have hK1 : Kept NoB w ((w2.alloc (.cells (arrC zer16) 62)).setRow w2.heap.size (arrC (cntsL ls))) := (HK2.out.alloc _).setRow (.inr HK2.out.size) _
  have hze : arrC zer16 = #[.int .i64 0, .int .i64 0, .int .i64 0, .int .i64 0, .int .i64 0, .int .i64 0, .int .i64 0, .int .i64 0, .int .i64 0, .int .i64 0, .int .i64 0, .int .i64 0, .int .i64 0, .int .i64 0, .int .i64 0, .int .i64 0] := rfl
  rw [hze] at hst hA1 hK1
  have HA1 := Lib.hid hA1; have HK3 := Lib.hid hK1
  clear hA0 hA1 hK1
  go_upto_region 5 with fail
  obtain ⟨W, hW⟩ : ∃ W, W = (w2.alloc (.cells #[.int .i64 0, .int .i64 0, .int .i64 0, .int .i64 0, .int .i64 0, .int .i64 0, .int .i64 0, .int .i64 0, .int .i64 0, .int .i64 0, .int .i64 0, .int .i64 0, .int .i64 0, .int .i64 0, .int .i64 0, .int .i64 0] 62)).setRow w2.heap.size (arrC (cntsL ls)) := ⟨_, rfl⟩
  rw [← hW] at HA1 HK3 ⊢
  obtain ⟨G, hG⟩ : ∃ G, G = w2.heap.size := ⟨_, rfl⟩
  rw [← hG] at HA1 ⊢
  clear hW hG hst
  go_wp2_with (refine wpList_load_row rfl 62 (.tmp 5) rfl G rfl 62 (arrC (cntsL ls)) (0, 0) (.array 16 3) HA1.out.obj Try.underlying62 rfl (by rw [hsz]; exact info16) ?_)
  refine (HFi.out _).mono ?_
  rintro e w3 ⟨rfl, hk⟩
  have HK4 := Lib.hid (HK3.out.trans hk)
  clear hk HA1
  have hA0 : Arr16 w3.heap.size (w3.alloc (.cells (arrC zer16) 62)) zer16 := ⟨rfl, heap_alloc_new w3 _⟩
  have hst := store16 hA0 (firstsP (cntsL ls) 16) (firstsP_len _ _)
  have hA1 := hA0.row (firstsP (cntsL ls) 16) (firstsP_len _ _)
  have hK1 : Kept NoB w ((w3.alloc (.cells (arrC zer16) 62)).setRow w3.heap.size (arrC (firstsP (cntsL ls) 16))) := (HK4.out.alloc _).setRow (.inr HK4.out.size) _
  rw [hze] at hst hA1 hK1
  have HA1 := Lib.hid hA1; have HK5 := Lib.hid hK1
  have hwG := HK4.out.size
  clear hA0 hA1 hK1 hze
  go_upto_region 6 with fail
  obtain ⟨W3, hW⟩ : ∃ W, W = (w3.alloc (.cells #[.int .i64 0, .int .i64 0, .int .i64 0, .int .i64 0, .int .i64 0, .int .i64 0, .int .i64 0, .int .i64 0, .int .i64 0, .int .i64 0, .int .i64 0, .int .i64 0, .int .i64 0, .int .i64 0, .int .i64 0, .int .i64 0] 62)).setRow w3.heap.size (arrC (firstsP (cntsL ls) 16)) := ⟨_, rfl⟩
  rw [← hW] at HA1 HK5 ⊢
  obtain ⟨H, hH⟩ : ∃ H, H = w3.heap.size := ⟨_, rfl⟩
  rw [← hH] at HA1 hwG ⊢
  have HA1' := HA1
  rw [← nextP_zero] at HA1'
  have HWG := Lib.hid hwG
  clear hW hH hst hwG HA1
  have HA1 := HA1'
  clear HA1'
  go_wp2_with (at_make; refine wpList_make_full _ rfl _ _ _ rfl 0 31 i0 (.int .u32 0) 1 Try.underlying26 hi hz0 hz1 .i64 .i64 _ _ n rfl rfl rfl rfl (by rw [hz2]; omega) (by unfold maxLen; omega) (Nat.zero_le _) ?_)
  intro w4 hown hgrow
  rw [toList_madeCells_one] at hown
  have hk34 : Kept NoB W3 w4 := (Kept.refl _ _).grown hgrow (fun k _ e => by cases e)
  have hown0 : w4.ownsRow 0 31 1 (.slice (some ⟨W3.heap.size, 0, none⟩) n n) n ((codesP ls 0).map (.int .u32)) := by
    rw [codesP_zero, ← HN.out, List.map_replicate]; exact hown
  have HA4 := Lib.hid (HA1.out.kept hk34 (fun h => h)); have HK6 := Lib.hid (HK5.out.trans hk34); have HO := Lib.hid hown0
  have hHW : H < W3.heap.size := obj_lt HA1.out.obj
  have hwW := HK5.out.size
  obtain ⟨D, hD⟩ : ∃ D, D = W3.heap.size := ⟨_, rfl⟩
  rw [← hD] at HO hHW hwW ⊢
  have HD := Lib.hid hwW
  clear hown hgrow hk34 hown0 hD hwW
  go_wp2
  go_loopw [28, 9, 10] (fun v28 _v9 _v10 wr => ∃ (j : Nat), v28 = .int .i64 (j : Int) ∧ j ≤ n ∧ Hid (Arr16 H wr (nextP ls j)) ∧ Hid (wr.ownsRow 0 31 1 (.slice (some ⟨D, 0, none⟩) n n) n ((codesP ls j).map (.int .u32))) ∧ Hid (Kept NoB w wr)) (fun v28 _ _ _ => n - (intOf v28).toNat)
  case atStart => exact ⟨0, rfl, by omega, HA4, HO, HK6⟩
  case round =>
    clear HA4 HO HK6 HA1
    obtain ⟨j, rfl, hj, HA, HO, HK⟩ := hrel
    by_cases hlt : (j : Int) < n
    · obtain ⟨g, off, rfl, _, hc0⟩ := HR.out j (by have := HN.out; omega)
      have hc := HK.out.cell hc0
      have hb := HS.out.getD j (by have := HN.out; omega)
      obtain ⟨z, hz⟩ : ∃ z : Nat, (z : Int) = ls.getD j 0 := ⟨(ls.getD j 0).toNat, by omega⟩
      rw [← hz] at hc hb
      have hjl : j < ls.length := by have := HN.out; omega
      by_cases hz0' : z = 0
      · have hzz : ls.getD j 0 = 0 := by omega
        have e1 := nextP_same ls j hjl hzz
        have e2 := codesP_same ls j hjl (by omega)
        have hA := HA.out; have hO := HO.out
        rw [← e1] at hA
        rw [← e2] at hO
        have HA2 := Lib.hid hA; have HO2 := Lib.hid hO
        have g1 : ¬ 0 < (z : Int) := by omega
        clear e1 e2 hA hO hzz hz hc0
        go_wp2
        go_roundw
        case rel => exact ⟨j + 1, by go_num, by omega, HA2, HO2, HK⟩
        case measure => simp [intOf]; omega
      · have hz16 : z < 16 := by omega
        have g1 : 0 < (z : Int) := by omega
        have e1 := nextP_step ls j z hjl hz.symm (by omega) hz16
        have e2 := codesP_step ls j hjl
        have hy : (nextP ls j).getD z 0 = codeAt ls j := by
          rw [nextP_get _ _ _ hz16, if_neg hz0']
          unfold codeAt
          rw [if_pos (by omega), ← hz, Int.toNat_natCast]
        have hfb := fC_bd (cntsL ls) (cnts_bd ls (by rw [← HN.out]; exact hl)) z (by omega)
        have hcl := List.count_le_length (l := ls.take j) (a := (z : Int))
        have hyb : 0 ≤ codeAt ls j ∧ codeAt ls j ≤ 60000000 := by
          rw [← hy, nextP_get _ _ _ hz16, if_neg hz0']
          rw [List.length_take] at hcl
          omega
        have d1 := HA.out.cell z hz16
        rw [hy] at d1 e1
        obtain ⟨y, hye⟩ : ∃ y, y = codeAt ls j := ⟨_, rfl⟩
        rw [← hye] at d1 e1 e2 hyb
        have hud : ∃ u, wr.cell? ⟨D, j, none⟩ = some u := by
          rw [HO.out.cellAt j (by omega)]
          exact ⟨_, List.getElem?_eq_getElem (by simp [codesP_len]; omega)⟩
        obtain ⟨u, hu⟩ := hud
        have hfd := HO.out.frozenAt j
        obtain ⟨s1, s2⟩ := HO.out.stored j (.int .u32 y)
        rw [← List.map_set, ← e2] at s1
        have hk1 : Kept (fun k => k = D) wr (wr.setCell ⟨D, j, none⟩ (.int .u32 y)) := Kept.setCell (S := fun k => k = D) (p := ⟨D, j, none⟩) (Kept.refl _ wr) (.inl rfl) _
        have hA1 := HA.out.kept hk1 (show ¬ H = D by omega)
        have d2 : (wr.setCell ⟨D, j, none⟩ (.int .u32 y)).cell? ⟨H, z, none⟩ = some (.int .i64 y) := by
          have := hA1.cell z hz16
          rw [hy, ← hye] at this
          exact this
        have hfh : (wr.setCell ⟨D, j, none⟩ (.int .u32 y)).frozen? ⟨H, z, none⟩ = false := obj_free hA1.obj z
        have hA2 := hA1.put z (y + 1)
        rw [← e1] at hA2
        have hk2 : Kept (fun k => k = H) (wr.setCell ⟨D, j, none⟩ (.int .u32 y)) ((wr.setCell ⟨D, j, none⟩ (.int .u32 y)).setCell ⟨H, z, none⟩ (.int .i64 (y + 1))) := Kept.setCell (S := fun k => k = H) (p := ⟨H, z, none⟩) (Kept.refl _ _) (.inl rfl) _
        have hO2 := hk2.row s1 (fun k e => by simp [Value.ownBlock] at e; omega)
        have hK2 : Kept NoB w ((wr.setCell ⟨D, j, none⟩ (.int .u32 y)).setCell ⟨H, z, none⟩ (.int .i64 (y + 1))) := Kept.setCell (p := ⟨H, z, none⟩) (Kept.setCell (p := ⟨D, j, none⟩) HK.out (.inr HD.out) _) (.inr HWG.out) _
        have HA2 := Lib.hid hA2; have HO2 := Lib.hid hO2; have HK2 := Lib.hid hK2
        have ew : IntKind.u32.wrap y = y := IntWalk.u32_in _ (by omega)
        have hHD : ¬ H = D := by omega
        have hDH : ¬ D = H := by omega
        have hfh0 : wr.frozen? ⟨H, z, none⟩ = false := obj_free HA.out.obj z
        clear e1 e2 hy hye hz hc0 s1 s2 hk1 hA1 hA2 hk2 hO2 hK2 hfb hcl
        go_wp2
        go_roundw
        case rel => exact ⟨j + 1, by go_num, by omega, HA2, HO2, HK2⟩
        case measure => simp [intOf]; omega
    · have hjn : j = n := by omega
      subst hjn
      have hzl : Z.length = j := by rw [HZ.out]; unfold codesL; rw [codesP_len]; exact HN.out.symm
      have hfin : codesP ls j = Z := by rw [HZ.out, HN.out]; rfl
      have hO := HO.out
      rw [hfin] at hO
      have HOf := Lib.hid hO; have HZl := Lib.hid hzl
      clear hzl hfin hO HO
      go_wp2
      go_ret2
      exact ⟨some ⟨D, 0, none⟩, j, by rw [HZl.out]; rfl, by rw [HZl.out]; exact HOf.out, HK.out⟩
end Go.Proofs.Ytokdlmpnokmniaa
