/-
  canon.Codes: the codes of lengths.
  A row of numbers of the call's own that grows.
  'n & (1 << k - 1)' on an int.
  Codes on paper: none is another one's beginning; the lengths of the laws; what the document fixes.
  canon.Decoder: what lies in it.
  What the document fixes of codes.
-/
import Derived.Test.YtfmjfgmbjdhogaaGreatDoorMs9
import Derived.Deep.MidRow
namespace Go.Proofs.YtfmjfgmbjdhogaaGreatDoor
open Go.RowKit
set_option linter.unusedVariables false
set_option linter.unusedSimpArgs false

/-- The code of place i. -/
def codeAt (ls : List Int) (i : Nat) : Int :=
  if 0 < ls.getD i 0 then fC (cntsL ls) (ls.getD i 0).toNat + (((ls.take i).count (ls.getD i 0) : Nat) : Int) else 0
/-- The codes of the first j places; noughts behind them. -/
def codesP (ls : List Int) (j : Nat) : List Int := (List.range ls.length).map (fun i : Nat => if i < j then codeAt ls i else 0)
/-- The next codes, when the first j places have theirs. -/
def nextP (ls : List Int) (j : Nat) : List Int := (List.range 16).map (fun n : Nat => fC (cntsL ls) n + (if n = 0 then 0 else (((ls.take j).count (n : Int) : Nat) : Int)))
theorem nextP_get (ls : List Int) (j n : Nat) (h : n < 16) : (nextP ls j).getD n 0 = fC (cntsL ls) n + (if n = 0 then 0 else (((ls.take j).count (n : Int) : Nat) : Int)) := by simp [nextP, List.getD, h]
theorem nextP_zero (ls : List Int) : nextP ls 0 = firstsP (cntsL ls) 16 := by
  apply List.ext_getElem (by simp [nextP, firstsP])
  intro i h1 h2
  have hi : i < 16 := by simpa [nextP] using h1
  simp [nextP, firstsP, hi]
theorem take_snoc (ls : List Int) (j : Nat) (h : j < ls.length) : ls.take (j + 1) = ls.take j ++ [ls.getD j 0] := by
  rw [List.take_succ_eq_append_getElem h]; simp [List.getD, h]
theorem nextP_step (ls : List Int) (j z : Nat) (h : j < ls.length) (hz : ls.getD j 0 = (z : Int)) (h1 : 1 ≤ z) (h15 : z < 16) : nextP ls (j + 1) = (nextP ls j).set z ((nextP ls j).getD z 0 + 1) := by
  obtain ⟨v, hv⟩ : ∃ v, v = (nextP ls j).getD z 0 + 1 := ⟨_, rfl⟩
  rw [← hv]
  rw [nextP_get _ _ _ h15, if_neg (by omega)] at hv
  apply List.ext_getElem (by simp [nextP])
  intro i h2 h3
  rw [List.getElem_set]
  simp only [nextP, List.getElem_map, List.getElem_range]
  rw [take_snoc ls j h, hz, List.count_append]
  by_cases e : z = i
  · subst e
    rw [if_neg (by omega), if_pos rfl, hv]
    simp; omega
  · rw [if_neg e]
    have e2 : ¬ (z : Int) = (i : Int) := by omega
    simp [List.count_cons, e2]
theorem nextP_same (ls : List Int) (j : Nat) (h : j < ls.length) (hz : ls.getD j 0 = 0) : nextP ls (j + 1) = nextP ls j := by
  apply List.ext_getElem (by simp [nextP])
  intro i h2 h3
  simp only [nextP, List.getElem_map, List.getElem_range]
  rw [take_snoc ls j h, hz, List.count_append]
  by_cases e : i = 0
  · rw [if_pos e, if_pos e]
  · have e2 : ¬ (0 : Int) = (i : Int) := by omega
    simp [List.count_cons, e2, e]
theorem codesP_len (ls : List Int) (j : Nat) : (codesP ls j).length = ls.length := by simp [codesP]
theorem codesP_zero (ls : List Int) : codesP ls 0 = List.replicate ls.length 0 := by
  apply List.ext_getElem (by simp [codesP])
  intro i h1 h2
  simp [codesP]
theorem codesP_step (ls : List Int) (j : Nat) (h : j < ls.length) : codesP ls (j + 1) = (codesP ls j).set j (codeAt ls j) := by
  apply List.ext_getElem (by simp [codesP])
  intro i h1 h2
  rw [List.getElem_set]
  simp only [codesP, List.getElem_map, List.getElem_range]
  by_cases e : j = i
  · subst e; rw [if_pos (by omega), if_pos rfl]
  · rw [if_neg e]
    by_cases h3 : i < j
    · rw [if_pos (by omega), if_pos h3]
    · rw [if_neg (by omega), if_neg h3]
theorem codesP_same (ls : List Int) (j : Nat) (h : j < ls.length) (hz : ¬ 0 < ls.getD j 0) : codesP ls (j + 1) = codesP ls j := by
  apply List.ext_getElem (by simp [codesP])
  intro i h1 h2
  simp only [codesP, List.getElem_map, List.getElem_range]
  by_cases e : j = i
  · subst e; rw [if_pos (by omega), if_neg (by omega)]; unfold codeAt; rw [if_neg hz]
  · by_cases h3 : i < j
    · rw [if_pos (by omega), if_pos h3]
    · rw [if_neg (by omega), if_neg h3]
/-- The codes. -/
def codesL (ls : List Int) : List Int := codesP ls ls.length
theorem codesL_get (ls : List Int) (i : Nat) (h : i < ls.length) : (codesL ls).getD i 0 = codeAt ls i := by simp [codesL, codesP, List.getD, h]
theorem cnts_bd (ls : List Int) (hl : ls.length ≤ 320) (n : Nat) : 0 ≤ (cntsL ls).getD n 0 ∧ (cntsL ls).getD n 0 ≤ 320 := by
  by_cases h : n < 16
  · rw [cnts_get _ _ h]
    have := List.count_le_length (l := ls) (a := (n : Int))
    omega
  · have : (cntsL ls).getD n 0 = 0 := by simp [List.getD, cnts_len, show 16 ≤ n by omega]
    omega

theorem infoU : (Tryz.prog.info? 71).map (fun i => (i.zero, i.size, i.bytes)) = some (some (.int .u32 0), 1, 4) := by kernel_rfl
/-- Codes told. -/
def CodesP (w : World) (zs : List Int) (e : Ending) (w' : World) : Prop :=
  ∃ a c, e = .returned (.tuple #[.slice a zs.length c, .int .i64 0]) ∧ w'.ownsRow 0 71 1 (.slice a zs.length c) zs.length (zs.map (.int .u32)) ∧ Kept NoB w w'

set_option maxRecDepth 20000 in
set_option maxHeartbeats 2000000 in
theorem codes_calls (a : Option Addr) (c B : Nat) (ls : List Int) (w : World) (hr : RdI w B a ls) (hs : Small 15 ls) (hl : ls.length ≤ 320) (hk : refS ls = 0) :
    Calls Tryz.prog 100 #[.slice a ls.length c] w (CodesP w (codesL ls)) := by
  have hRf := refused_calls a c B ls w hr hs hl
  rw [hk] at hRf
  have HRf := Lib.hid hRf
  have hCn : ∀ W, Kept NoB w W → Calls Tryz.prog 133 #[.slice a ls.length c] W fun e w' => e = .returned (.tuple #[.agg (arrC (cntsL ls)), .bool true]) ∧ Kept NoB W w' := fun W hk => counts_calls a c B ls W (hr.kept hk (fun _ _ h => h)) hs hl
  have HCn := Lib.hid hCn
  have HFi := Lib.hid (fun W => firsts_calls (cntsL ls) W (cnts_len ls) (cnts_bd ls hl))
  have HR := Lib.hid hr; have HS := Lib.hid hs
  obtain ⟨Z, hZ⟩ : ∃ Z, Z = codesL ls := ⟨_, rfl⟩
  have HZ := Lib.hid hZ
  rw [← hZ]
  obtain ⟨n, hn⟩ : ∃ n, n = ls.length := ⟨_, rfl⟩
  have HN := Lib.hid hn
  rw [← hn] at hl HRf HCn ⊢
  obtain ⟨i0, hi, hz0, hz1, hz2⟩ := info_parts infoU
  have hsz : (arrC (cntsL ls)).size = 16 := by rw [arrC_size, cnts_len]
  have hsz2 : (arrC (firstsP (cntsL ls) 16)).size = 16 := by rw [arrC_size, firstsP_len]
  clear hr hs hn hZ hCn hRf hk
  go_enter Tryz.func100, Tryz.ntmps100
  go_wp2_with fail
  refine HRf.out.mono ?_
  rintro e w1 ⟨rfl, hk⟩
  have HK1 := Lib.hid hk
  clear hk
  go_wp2_with fail
  refine (HCn.out _ HK1.out).mono ?_
  rintro e w2 ⟨rfl, hk⟩
  have HK2 := Lib.hid (HK1.out.trans hk)
  clear hk
  have hA0 : Arr16 w2.heap.size (w2.alloc (.cells (arrC zer16) 194)) zer16 := ⟨rfl, heap_alloc_new w2 _⟩
  have hst := store16 hA0 (cntsL ls) (cnts_len _)
  have hA1 := hA0.row (cntsL ls) (cnts_len _)
  have hK1 : Kept NoB w ((w2.alloc (.cells (arrC zer16) 194)).setRow w2.heap.size (arrC (cntsL ls))) := (HK2.out.alloc _).setRow (.inr HK2.out.size) _
  have hze : arrC zer16 = #[.int .i64 0, .int .i64 0, .int .i64 0, .int .i64 0, .int .i64 0, .int .i64 0, .int .i64 0, .int .i64 0, .int .i64 0, .int .i64 0, .int .i64 0, .int .i64 0, .int .i64 0, .int .i64 0, .int .i64 0, .int .i64 0] := rfl
  rw [hze] at hst hA1 hK1
  have HA1 := Lib.hid hA1; have HK3 := Lib.hid hK1
  clear hA0 hA1 hK1
  go_upto_region 5 with fail
  obtain ⟨W, hW⟩ : ∃ W, W = (w2.alloc (.cells #[.int .i64 0, .int .i64 0, .int .i64 0, .int .i64 0, .int .i64 0, .int .i64 0, .int .i64 0, .int .i64 0, .int .i64 0, .int .i64 0, .int .i64 0, .int .i64 0, .int .i64 0, .int .i64 0, .int .i64 0, .int .i64 0] 194)).setRow w2.heap.size (arrC (cntsL ls)) := ⟨_, rfl⟩
  rw [← hW] at HA1 HK3 ⊢
  obtain ⟨G, hG⟩ : ∃ G, G = w2.heap.size := ⟨_, rfl⟩
  rw [← hG] at HA1 ⊢
  clear hW hG hst
  go_wp2_with (refine wpList_load_row rfl 194 (.tmp 5) rfl G rfl 194 (arrC (cntsL ls)) (0, 0) (.array 16 3) HA1.out.obj Tryz.underlying194 rfl (by rw [hsz]; exact info16) ?_)
  refine (HFi.out _).mono ?_
  rintro e w3 ⟨rfl, hk⟩
  have HK4 := Lib.hid (HK3.out.trans hk)
  clear hk HA1
  have hA0 : Arr16 w3.heap.size (w3.alloc (.cells (arrC zer16) 194)) zer16 := ⟨rfl, heap_alloc_new w3 _⟩
  have hst := store16 hA0 (firstsP (cntsL ls) 16) (firstsP_len _ _)
  have hA1 := hA0.row (firstsP (cntsL ls) 16) (firstsP_len _ _)
  have hK1 : Kept NoB w ((w3.alloc (.cells (arrC zer16) 194)).setRow w3.heap.size (arrC (firstsP (cntsL ls) 16))) := (HK4.out.alloc _).setRow (.inr HK4.out.size) _
  rw [hze] at hst hA1 hK1
  have HA1 := Lib.hid hA1; have HK5 := Lib.hid hK1
  have hwG := HK4.out.size
  clear hA0 hA1 hK1 hze
  go_upto_region 6 with fail
  obtain ⟨W3, hW⟩ : ∃ W, W = (w3.alloc (.cells #[.int .i64 0, .int .i64 0, .int .i64 0, .int .i64 0, .int .i64 0, .int .i64 0, .int .i64 0, .int .i64 0, .int .i64 0, .int .i64 0, .int .i64 0, .int .i64 0, .int .i64 0, .int .i64 0, .int .i64 0, .int .i64 0] 194)).setRow w3.heap.size (arrC (firstsP (cntsL ls) 16)) := ⟨_, rfl⟩
  rw [← hW] at HA1 HK5 ⊢
  obtain ⟨H, hH⟩ : ∃ H, H = w3.heap.size := ⟨_, rfl⟩
  rw [← hH] at HA1 hwG ⊢
  have HA1' := HA1
  rw [← nextP_zero] at HA1'
  have HWG := Lib.hid hwG
  clear hW hH hst hwG HA1
  have HA1 := HA1'
  clear HA1'
  go_wp2_with (at_make; refine wpList_make_full _ rfl _ _ _ rfl 0 71 i0 (.int .u32 0) 1 Tryz.underlying156 hi hz0 hz1 .i64 .i64 _ _ n rfl rfl rfl rfl (by rw [hz2]; omega) (by unfold maxLen; omega) (Nat.zero_le _) ?_)
  intro w4 hown hgrow
  rw [toList_madeCells_one] at hown
  have hk34 : Kept NoB W3 w4 := (Kept.refl _ _).grown hgrow (fun k _ e => by cases e)
  have hown0 : w4.ownsRow 0 71 1 (.slice (some ⟨W3.heap.size, 0, none⟩) n n) n ((codesP ls 0).map (.int .u32)) := by
    rw [codesP_zero, ← HN.out, List.map_replicate]; exact hown
  have HA4 := Lib.hid (HA1.out.kept hk34 (fun h => h)); have HK6 := Lib.hid (HK5.out.trans hk34); have HO := Lib.hid hown0
  have hHW : H < W3.heap.size := obj_lt HA1.out.obj
  have hwW := HK5.out.size
  obtain ⟨D, hD⟩ : ∃ D, D = W3.heap.size := ⟨_, rfl⟩
  rw [← hD] at HO hHW hwW ⊢
  have HD := Lib.hid hwW
  clear hown hgrow hk34 hown0 hD hwW
  go_wp2
  go_loopw [28, 9, 10] (fun v28 _v9 _v10 wr => ∃ (j : Nat), v28 = .int .i64 (j : Int) ∧ j ≤ n ∧ Hid (Arr16 H wr (nextP ls j)) ∧ Hid (wr.ownsRow 0 71 1 (.slice (some ⟨D, 0, none⟩) n n) n ((codesP ls j).map (.int .u32))) ∧ Hid (Kept NoB w wr)) (fun v28 _ _ _ => n - (intOf v28).toNat)
  case atStart => exact ⟨0, rfl, by omega, HA4, HO, HK6⟩
  case round =>
    clear HA4 HO HK6 HA1
    obtain ⟨j, rfl, hj, HA, HO, HK⟩ := hrel
    by_cases hlt : (j : Int) < n
    · obtain ⟨g, off, rfl, _, hc0⟩ := HR.out j (by have := HN.out; omega)
      have hc := HK.out.cell hc0
      have hb := HS.out.getD j (by have := HN.out; omega)
      obtain ⟨z, hz⟩ : ∃ z : Nat, (z : Int) = ls.getD j 0 := ⟨(ls.getD j 0).toNat, by omega⟩
      rw [← hz] at hc hb
      have hjl : j < ls.length := by have := HN.out; omega
      by_cases hz0' : z = 0
      · have hzz : ls.getD j 0 = 0 := by omega
        have e1 := nextP_same ls j hjl hzz
        have e2 := codesP_same ls j hjl (by omega)
        have hA := HA.out; have hO := HO.out
        rw [← e1] at hA
        rw [← e2] at hO
        have HA2 := Lib.hid hA; have HO2 := Lib.hid hO
        have g1 : ¬ 0 < (z : Int) := by omega
        clear e1 e2 hA hO hzz hz hc0
        go_wp2
        go_roundw
        case rel => exact ⟨j + 1, by go_num, by omega, HA2, HO2, HK⟩
        case measure => simp [intOf]; omega
      · have hz16 : z < 16 := by omega
        have g1 : 0 < (z : Int) := by omega
        have e1 := nextP_step ls j z hjl hz.symm (by omega) hz16
        have e2 := codesP_step ls j hjl
        have hy : (nextP ls j).getD z 0 = codeAt ls j := by
          rw [nextP_get _ _ _ hz16, if_neg hz0']
          unfold codeAt
          rw [if_pos (by omega), ← hz, Int.toNat_natCast]
        have hfb := fC_bd (cntsL ls) (cnts_bd ls (by rw [← HN.out]; exact hl)) z (by omega)
        have hcl := List.count_le_length (l := ls.take j) (a := (z : Int))
        have hyb : 0 ≤ codeAt ls j ∧ codeAt ls j ≤ 60000000 := by
          rw [← hy, nextP_get _ _ _ hz16, if_neg hz0']
          rw [List.length_take] at hcl
          omega
        have d1 := HA.out.cell z hz16
        rw [hy] at d1 e1
        obtain ⟨y, hye⟩ : ∃ y, y = codeAt ls j := ⟨_, rfl⟩
        rw [← hye] at d1 e1 e2 hyb
        have hud : ∃ u, wr.cell? ⟨D, j, none⟩ = some u := by
          rw [HO.out.cellAt j (by omega)]
          exact ⟨_, List.getElem?_eq_getElem (by simp [codesP_len]; omega)⟩
        obtain ⟨u, hu⟩ := hud
        have hfd := HO.out.frozenAt j
        obtain ⟨s1, s2⟩ := HO.out.stored j (.int .u32 y)
        rw [← List.map_set, ← e2] at s1
        have hk1 : Kept (fun k => k = D) wr (wr.setCell ⟨D, j, none⟩ (.int .u32 y)) := Kept.setCell (S := fun k => k = D) (p := ⟨D, j, none⟩) (Kept.refl _ wr) (.inl rfl) _
        have hA1 := HA.out.kept hk1 (show ¬ H = D by omega)
        have d2 : (wr.setCell ⟨D, j, none⟩ (.int .u32 y)).cell? ⟨H, z, none⟩ = some (.int .i64 y) := by
          have := hA1.cell z hz16
          rw [hy, ← hye] at this
          exact this
        have hfh : (wr.setCell ⟨D, j, none⟩ (.int .u32 y)).frozen? ⟨H, z, none⟩ = false := obj_free hA1.obj z
        have hA2 := hA1.put z (y + 1)
        rw [← e1] at hA2
        have hk2 : Kept (fun k => k = H) (wr.setCell ⟨D, j, none⟩ (.int .u32 y)) ((wr.setCell ⟨D, j, none⟩ (.int .u32 y)).setCell ⟨H, z, none⟩ (.int .i64 (y + 1))) := Kept.setCell (S := fun k => k = H) (p := ⟨H, z, none⟩) (Kept.refl _ _) (.inl rfl) _
        have hO2 := hk2.row s1 (fun k e => by simp [Value.ownBlock] at e; omega)
        have hK2 : Kept NoB w ((wr.setCell ⟨D, j, none⟩ (.int .u32 y)).setCell ⟨H, z, none⟩ (.int .i64 (y + 1))) := Kept.setCell (p := ⟨H, z, none⟩) (Kept.setCell (p := ⟨D, j, none⟩) HK.out (.inr HD.out) _) (.inr HWG.out) _
        have HA2 := Lib.hid hA2; have HO2 := Lib.hid hO2; have HK2 := Lib.hid hK2
        have ew : IntKind.u32.wrap y = y := IntWalk.u32_in _ (by omega)
        have hHD : ¬ H = D := by omega
        have hDH : ¬ D = H := by omega
        have hfh0 : wr.frozen? ⟨H, z, none⟩ = false := obj_free HA.out.obj z
        clear e1 e2 hy hye hz hc0 s1 s2 hk1 hA1 hA2 hk2 hO2 hK2 hfb hcl
        go_wp2
        go_roundw
        case rel => exact ⟨j + 1, by go_num, by omega, HA2, HO2, HK2⟩
        case measure => simp [intOf]; omega
    · have hjn : j = n := by omega
      subst hjn
      have hzl : Z.length = j := by rw [HZ.out]; unfold codesL; rw [codesP_len]; exact HN.out.symm
      have hfin : codesP ls j = Z := by rw [HZ.out, HN.out]; rfl
      have hO := HO.out
      rw [hfin] at hO
      have HOf := Lib.hid hO; have HZl := Lib.hid hzl
      clear hzl hfin hO HO
      go_wp2
      go_ret2
      exact ⟨some ⟨D, 0, none⟩, j, by rw [HZl.out]; rfl, by rw [HZl.out]; exact HOf.out, HK.out⟩
end Go.Proofs.YtfmjfgmbjdhogaaGreatDoor

namespace Go.Proofs.YtfmjfgmbjdhogaaGreatDoor
open Go.RowKit
set_option linter.unusedVariables false
set_option linter.unusedSimpArgs false

/-- A row of numbers of the call's own. -/
structure IntSt (w0 w : World) (a : Option Addr) (l c : Nat) (zs : List Int) : Prop where
  len : l = zs.length
  own : w.ownsRow 0 3 1 (.slice a l c) l (zs.map (.int .i64))
  kept : Kept NoB w0 w
  fresh : ∀ k, (Value.slice a l c).ownBlock = some k → w0.heap.size ≤ k
theorem IntSt.app {w0 wr w2 : World} {a' a2 : Option Addr} {c' c2 len : Nat} {zs : List Int} {x : Int} {o : Obj} (h : IntSt w0 wr a' len c' zs)
    (hown : w2.ownsRow 0 3 1 (.slice a2 (len + 1) c2) (len + 1) (zs.map (.int .i64) ++ [.int .i64 x])) (hgrow : (wr.alloc o).grownBy w2 (Value.slice a' len c').ownBlock)
    (hnew : ∀ k, (Value.slice a2 (len + 1) c2).ownBlock = some k → (Value.slice a' len c').ownBlock = some k ∨ wr.heap.size + 1 ≤ k) : IntSt w0 w2 a2 (len + 1) c2 (zs ++ [x]) := by
  refine ⟨by rw [h.len]; simp, ?_, ?_, ?_⟩
  · rw [List.map_append]; exact hown
  · exact (h.kept.alloc o).grown hgrow (fun k hk e => by have := h.fresh k e; omega)
  · intro k hk
    rcases hnew k hk with h1 | h1
    · exact h.fresh k h1
    · have := h.kept.size; omega
theorem IntSt.reads {w0 w : World} {a : Option Addr} {l c : Nat} {zs : List Int} (h : IntSt w0 w a l c zs) : RdI w w.heap.size a zs := by
  have hl := h.len
  intro i hi
  rcases h.own.2 with ⟨_, hz⟩ | ⟨g, cc, cur, hv, _⟩
  · omega
  · simp at hv
    obtain ⟨rfl, rfl⟩ := hv
    have hc : w.cell? ⟨g, i, none⟩ = some (.int .i64 (zs.getD i 0)) := by
      rw [h.own.cellAt i (by omega)]; simp [List.getD, hi]
    exact ⟨g, 0, rfl, World.block_lt_of_cell? w _ hc, by rw [Nat.zero_add]; exact hc⟩
theorem IntSt.nil (w : World) : IntSt w w none 0 0 [] := ⟨rfl, World.ownsRow_nil _ _ _ _, Kept.refl _ _, fun k hk => by simp [Value.ownBlock] at hk⟩
theorem IntSt.drewN {w0 w : World} {a : Option Addr} {l c : Nat} {zs : List Int} (h : IntSt w0 w a l c zs) (n : Nat) : IntSt w0 (w.drewN n) a l c zs := ⟨h.len, (Kept.refl NoB w).drewN n |>.row h.own (fun _ _ h => h), h.kept.drewN n, h.fresh⟩
theorem RdI.keptNo {w w' : World} {B : Nat} {ao : Option Addr} {zs : List Int} (h : RdI w B ao zs) (hk : Kept NoB w w') : RdI w' B ao zs := h.kept hk (fun _ _ h => h)
end Go.Proofs.YtfmjfgmbjdhogaaGreatDoor

namespace Go.Proofs.YtfmjfgmbjdhogaaGreatDoor
open Go.RowKit
set_option linter.unusedVariables false

theorem i64_mask (n : Int) (k : Nat) (hk : k ≤ 62) : bits .and .i64 n ((2 ^ k - 1 : Nat) : Int) = n % ((2 ^ k : Nat) : Int) := by
  have h1 : 1 ≤ 2 ^ k := Nat.one_le_two_pow
  have h2 : 2 ^ k ≤ 2 ^ 62 := pow_le_pow2 hk
  have ha : (BitVec.ofInt 64 ((2 ^ k - 1 : Nat) : Int)).toNat = 2 ^ k - 1 := by
    rw [BitVec.ofInt_natCast, BitVec.toNat_ofNat]; exact Nat.mod_eq_of_lt (by omega)
  show IntKind.i64.wrap ((BitVec.ofInt 64 n &&& BitVec.ofInt 64 ((2 ^ k - 1 : Nat) : Int)).toNat : Int) = _
  rw [BitVec.toNat_and, ha, Nat.and_two_pow_sub_one_eq_mod]
  have hm : (((BitVec.ofInt 64 n).toNat : Nat) : Int) = n % 18446744073709551616 := by
    rw [BitVec.toNat_ofInt]
    omega
  have hlt : (BitVec.ofInt 64 n).toNat % 2 ^ k < 2 ^ k := Nat.mod_lt _ (by omega)
  rw [IntWalk.i64_in _ (by omega), Int.natCast_emod, hm]
  exact Int.emod_emod_of_dvd n (Int.ofNat_dvd.2 (show 2 ^ k ∣ 2 ^ 64 from Nat.pow_dvd_pow 2 (by omega)))

end Go.Proofs.YtfmjfgmbjdhogaaGreatDoor

namespace Go.Proofs.YtfmjfgmbjdhogaaGreatDoor
open Go.RowKit
set_option linter.unusedVariables false
set_option linter.unusedSimpArgs false

theorem count_step (ls : List Int) (i : Nat) (h : i < ls.length) : (ls.take i).count (ls.getD i 0) + 1 = (ls.take (i + 1)).count (ls.getD i 0) := by
  rw [take_snoc ls i h, List.count_append]; simp
theorem count_mono (ls : List Int) (z : Int) (i j : Nat) (h : i ≤ j) : (ls.take i).count z ≤ (ls.take j).count z := by
  have e : ls.take i = (ls.take j).take i := by rw [List.take_take, Nat.min_eq_left h]
  rw [e]
  exact List.Sublist.count_le z (List.take_sublist _ _)
theorem count_all (ls : List Int) (z : Int) (i : Nat) : (ls.take i).count z ≤ ls.count z := List.Sublist.count_le z (List.take_sublist _ _)
theorem fC_grow (ls : List Int) (hl : ls.length ≤ 320) (a : Nat) (ha : 1 ≤ a) (ha15 : a ≤ 15) : ∀ d, a + 1 + d ≤ 16 → (fC (cntsL ls) a + ((ls.count (a : Int) : Nat) : Int)) * ((2 ^ (d + 1) : Nat) : Int) ≤ fC (cntsL ls) (a + 1 + d)
  | 0, _ => by
    rw [Nat.add_zero, fC_succ _ a ha, cnts_get _ _ (by omega)]
    simp
  | d + 1, h => by
    have ih := fC_grow ls hl a ha ha15 d (by omega)
    have hb := cnts_bd ls hl (a + 1 + d)
    rw [show a + 1 + (d + 1) = (a + 1 + d) + 1 by omega, fC_succ _ (a + 1 + d) (by omega), Nat.pow_succ, Int.natCast_mul, ← Int.mul_assoc]
    have : (((2 : Nat)) : Int) = 2 := rfl
    rw [this]
    omega
/-- No code is another one's beginning; those of one length rise. -/
theorem code_free (ls : List Int) (hl : ls.length ≤ 320) (hs : Small 15 ls) (i k : Nat) (hi : i < ls.length) (hk : k < ls.length) (hne : i ≠ k) (h0 : 0 < ls.getD i 0) (d : Nat) (hd : ls.getD i 0 + (d : Int) = ls.getD k 0) :
    ¬ codeAt ls k / 2 ^ d = codeAt ls i ∧ (d = 0 → (i < k ↔ codeAt ls i < codeAt ls k)) := by
  have hbi := hs.getD i hi
  have hbk := hs.getD k hk
  obtain ⟨a, ha⟩ : ∃ a : Nat, (a : Int) = ls.getD i 0 := ⟨(ls.getD i 0).toNat, by omega⟩
  have ci : codeAt ls i = fC (cntsL ls) a + (((ls.take i).count (a : Int) : Nat) : Int) := by
    unfold codeAt; rw [if_pos h0, ← ha, Int.toNat_natCast]
  have ck : codeAt ls k = fC (cntsL ls) (a + d) + (((ls.take k).count ((a + d : Nat) : Int) : Nat) : Int) := by
    unfold codeAt; rw [if_pos (by omega), ← hd, ← ha, ← Int.natCast_add, Int.toNat_natCast]
  have hri : (ls.take i).count (a : Int) < ls.count (a : Int) := by
    have h1 := count_step ls i hi
    rw [← ha] at h1
    have h2 := count_all ls (a : Int) (i + 1)
    omega
  by_cases hd0 : d = 0
  · subst hd0
    rw [Nat.add_zero] at ck
    have h1 := count_step ls i hi
    have h2 := count_step ls k hk
    rw [← hd, Int.natCast_zero, Int.add_zero] at h2
    rw [← ha] at h1 h2
    have key : i < k ↔ codeAt ls i < codeAt ls k := by
      rw [ci, ck]
      constructor
      · intro h
        have := count_mono ls (a : Int) (i + 1) k h
        omega
      · intro h
        refine Nat.lt_of_not_le (fun hle => ?_)
        have := count_mono ls (a : Int) k i hle
        omega
    refine ⟨?_, fun _ => key⟩
    simp only [Int.pow_zero, Int.ediv_one]
    intro e
    rcases Nat.lt_or_gt_of_ne hne with h | h
    · have := key.1 h; omega
    · have hk2 := count_mono ls (a : Int) (k + 1) i h
      rw [ci, ck] at e
      omega
  · obtain ⟨d', rfl⟩ : ∃ d', d = d' + 1 := ⟨d - 1, by omega⟩
    refine ⟨fun e => ?_, fun h => by omega⟩
    have hg := fC_grow ls hl a (by omega) (by omega) d' (by omega)
    have e2 : a + 1 + d' = a + (d' + 1) := by omega
    rw [e2] at hg
    have hck : fC (cntsL ls) (a + (d' + 1)) ≤ codeAt ls k := by rw [ck]; omega
    have hpow : (2 : Int) ^ (d' + 1) = ((2 ^ (d' + 1) : Nat) : Int) := by rw [Int.natCast_pow]; rfl
    rw [hpow] at e
    have hpp : (0 : Int) < ((2 ^ (d' + 1) : Nat) : Int) := by
      have := Nat.two_pow_pos (d' + 1); omega
    have h3 : fC (cntsL ls) a + ((ls.count (a : Int) : Nat) : Int) ≤ codeAt ls k / ((2 ^ (d' + 1) : Nat) : Int) := (Int.le_ediv_iff_mul_le hpp).2 (by omega)
    rw [e, ci] at h3
    omega
theorem codeAt_bd (ls : List Int) (hl : ls.length ≤ 320) (hs : Small 15 ls) (i : Nat) (hi : i < ls.length) : 0 ≤ codeAt ls i ∧ codeAt ls i ≤ 60000000 := by
  have hb := hs.getD i hi
  unfold codeAt
  split
  · have h1 := fC_bd (cntsL ls) (cnts_bd ls hl) (ls.getD i 0).toNat (by omega)
    have h2 := List.count_le_length (l := ls.take i) (a := ls.getD i 0)
    rw [List.length_take] at h2
    omega
  · omega

theorem count_rep0 : ∀ n : Nat, (List.replicate n (0 : Int)).count 0 = n := fun n => by simp
theorem count_set : ∀ n p : Nat, p < n → ((List.replicate n (0 : Int)).set p 1).count 0 + 1 = n ∧ ((List.replicate n (0 : Int)).set p 1).count 1 = 1
  | 0, p, h => by omega
  | n + 1, 0, _ => by
    rw [List.replicate_succ, List.set_cons_zero, List.count_cons, List.count_cons]
    have : (List.replicate n (0 : Int)).count 1 = 0 := List.count_eq_zero.2 (fun h => by have := List.eq_of_mem_replicate h; omega)
    rw [count_rep0, this]
    simp
  | n + 1, p + 1, h => by
    obtain ⟨h1, h2⟩ := count_set n p (by omega)
    rw [List.replicate_succ, List.set_cons_succ, List.count_cons, List.count_cons, h2]
    simp; omega
/-- Lengths of weights are not refused. -/
theorem ref_lens (ws : List Int) (lv : List Lf) (hok : LensOkP ws 15) (hs : SrtP lv (leavesL 0 ws)) : refS (lensOf lv ws.length 15) = 0 := by
  have hF := lensF ws 15 lv hok hs
  have e15 : (15 : Int).toNat = 15 := rfl
  rw [e15] at hF
  unfold refS
  rw [if_neg]
  by_cases n0 : lv.length = 0
  · have e : lensOf lv ws.length 15 = List.replicate ws.length 0 := by unfold lensOf; rw [if_pos n0]
    rw [e]
    unfold kindS
    rw [if_pos (by rw [count_rep0]; simp)]
    omega
  · by_cases n1 : lv.length = 1
    · have e : lensOf lv ws.length 15 = (List.replicate ws.length 0).set (lv.getD 0 (0, 0)).1.toNat 1 := by unfold lensOf; rw [if_neg n0, if_pos n1]
      have hm : lv.getD 0 (0, 0) ∈ lv := getD_mem lv 0 (by omega)
      obtain ⟨_, q, hq, hql⟩ := leaf_place hok.small hs _ hm
      have hc := count_set ws.length q hql
      rw [e, hq, Int.toNat_natCast]
      unfold kindS
      rw [List.length_set, List.length_replicate, if_neg (by omega), if_pos ⟨by omega, hc.2⟩]
      omega
    · have hk := hF.kraft
      rw [if_neg n0, if_neg n1] at hk
      unfold kindS
      rw [hk]
      split
      · omega
      · split
        · omega
        · simp

end Go.Proofs.YtfmjfgmbjdhogaaGreatDoor

namespace Go.Proofs.YtfmjfgmbjdhogaaGreatDoor
open Go.RowKit
set_option linter.unusedVariables false
set_option linter.unusedSimpArgs false

def cat3 (cnt fst frm : List Int) (pl : Value) (full : Bool) : List Value := cnt.map (.int .i64) ++ (fst.map (.int .i64) ++ (frm.map (.int .i64) ++ [pl, .bool full]))
/-- A Decoder in block D. -/
structure DecSt (D : Nat) (w : World) (cnt fst frm : List Int) (pl : Value) (full : Bool) : Prop where
  l1 : cnt.length = 16
  l2 : fst.length = 16
  l3 : frm.length = 16
  obj : w.heap[D]? = some (.cells (cat3 cnt fst frm pl full).toArray 236 (0, 0))
theorem cat3_len (cnt fst frm : List Int) (pl : Value) (full : Bool) (h1 : cnt.length = 16) (h2 : fst.length = 16) (h3 : frm.length = 16) : (cat3 cnt fst frm pl full).length = 50 := by simp [cat3, h1, h2, h3]
section
variable {D : Nat} {w : World} {cnt fst frm : List Int} {pl : Value} {full : Bool}
theorem DecSt.atC (h : DecSt D w cnt fst frm pl full) (i : Nat) (hi : i < 16) : w.cell? ⟨D, i, none⟩ = some (.int .i64 (cnt.getD i 0)) := by
  rw [obj_cell h.obj i]
  have := h.l1
  simp [cat3, List.getElem?_append_left, List.getD, this, hi]
theorem DecSt.atF (h : DecSt D w cnt fst frm pl full) (i : Nat) (hi : i < 16) : w.cell? ⟨D, 16 + i, none⟩ = some (.int .i64 (fst.getD i 0)) := by
  rw [obj_cell h.obj]
  have := h.l1; have h2 := h.l2
  rw [List.getElem?_toArray]
  unfold cat3
  rw [List.getElem?_append_right (by simp; omega), List.getElem?_append_left (by simp; omega)]
  simp [this, List.getD, h2, hi]
theorem DecSt.atM (h : DecSt D w cnt fst frm pl full) (i : Nat) (hi : i < 16) : w.cell? ⟨D, 32 + i, none⟩ = some (.int .i64 (frm.getD i 0)) := by
  rw [obj_cell h.obj]
  have := h.l1; have h2 := h.l2; have h3 := h.l3
  rw [List.getElem?_toArray]
  unfold cat3
  rw [List.getElem?_append_right (by simp; omega), List.getElem?_append_right (by simp; omega), List.getElem?_append_left (by simp; omega)]
  have e : 32 + i - (List.map (Value.int .i64) cnt).length - (List.map (Value.int .i64) fst).length = i := by simp; omega
  rw [e]
  simp [List.getD, h3, hi]
theorem DecSt.atP (h : DecSt D w cnt fst frm pl full) : w.cell? ⟨D, 48, none⟩ = some pl := by
  rw [obj_cell h.obj]
  have := h.l1; have h2 := h.l2; have h3 := h.l3
  rw [List.getElem?_toArray]
  unfold cat3
  rw [List.getElem?_append_right (by simp; omega), List.getElem?_append_right (by simp; omega), List.getElem?_append_right (by simp; omega)]
  simp [this, h2, h3]
theorem DecSt.atB (h : DecSt D w cnt fst frm pl full) : w.cell? ⟨D, 49, none⟩ = some (.bool full) := by
  rw [obj_cell h.obj]
  have := h.l1; have h2 := h.l2; have h3 := h.l3
  rw [List.getElem?_toArray]
  unfold cat3
  rw [List.getElem?_append_right (by simp; omega), List.getElem?_append_right (by simp; omega), List.getElem?_append_right (by simp; omega)]
  simp [this, h2, h3]
theorem DecSt.free (h : DecSt D w cnt fst frm pl full) (j : Nat) : w.frozen? ⟨D, j, none⟩ = false := obj_free h.obj j
theorem DecSt.kept {S : Nat → Prop} {w' : World} (h : DecSt D w cnt fst frm pl full) (hk : Kept S w w') (hs : ¬ S D) : DecSt D w' cnt fst frm pl full := ⟨h.l1, h.l2, h.l3, hk.obj h.obj hs⟩
theorem DecSt.setCnt (h : DecSt D w cnt fst frm pl full) (i : Nat) (hi : i < 16) (x : Int) : DecSt D (w.setCell ⟨D, i, none⟩ (.int .i64 x)) (cnt.set i x) fst frm pl full :=
  ⟨by rw [List.length_set]; exact h.l1, h.l2, h.l3, by
    rw [obj_set h.obj i _]
    have h1 := h.l1
    rw [List.setIfInBounds_toArray]
    unfold cat3
    rw [List.set_append_left _ _ (by simp; omega), List.map_set]⟩
theorem DecSt.setFrm (h : DecSt D w cnt fst frm pl full) (i : Nat) (hi : i < 16) (x : Int) : DecSt D (w.setCell ⟨D, 32 + i, none⟩ (.int .i64 x)) cnt fst (frm.set i x) pl full :=
  ⟨h.l1, h.l2, by rw [List.length_set]; exact h.l3, by
    rw [obj_set h.obj _ _]
    have h1 := h.l1; have h2 := h.l2; have h3 := h.l3
    rw [List.setIfInBounds_toArray]
    unfold cat3
    have e : 32 + i - (List.map (Value.int .i64) cnt).length - (List.map (Value.int .i64) fst).length = i := by simp only [List.length_map]; omega
    rw [List.set_append_right _ _ (by simp; omega), List.set_append_right _ _ (by simp; omega), e, List.set_append_left _ _ (by simp; omega), List.map_set]⟩
theorem DecSt.setPl (h : DecSt D w cnt fst frm pl full) (x : Value) : DecSt D (w.setCell ⟨D, 48, none⟩ x) cnt fst frm x full :=
  ⟨h.l1, h.l2, h.l3, by
    rw [obj_set h.obj _ _]
    have h1 := h.l1; have h2 := h.l2; have h3 := h.l3
    rw [List.setIfInBounds_toArray]
    unfold cat3
    rw [List.set_append_right _ _ (by simp; omega), List.set_append_right _ _ (by simp; omega), List.set_append_right _ _ (by simp; omega)]
    simp [h1, h2, h3]⟩
end
theorem setCells_cells {D : Nat} {ty : TypeId} : ∀ (vs : List Value) (o : Nat) (w : World) (ds : List Value), w.heap[D]? = some (.cells ds.toArray ty (0, 0)) → o + vs.length ≤ ds.length →
    (w.setCells D o vs).heap[D]? = some (.cells (ds.take o ++ (vs ++ ds.drop (o + vs.length))).toArray ty (0, 0))
  | [], o, w, ds, h, _ => by
    show w.heap[D]? = _
    rw [h]; simp
  | v :: r, o, w, ds, h, hl => by
    simp only [List.length_cons] at hl
    have h1 := obj_set h o v
    rw [List.setIfInBounds_toArray] at h1
    have ih := setCells_cells r (o + 1) (w.setCell ⟨D, o, none⟩ v) (ds.set o v) h1 (by rw [List.length_set]; omega)
    rw [World.setCells, ih]
    have e1 : (ds.set o v).take (o + 1) = ds.take o ++ [v] := by
      rw [List.take_succ_eq_append_getElem (by rw [List.length_set]; omega)]
      simp [List.take_set_of_le]
    have e2 : (ds.set o v).drop (o + 1 + r.length) = ds.drop (o + (v :: r).length) := by
      rw [List.drop_set_of_lt (by omega)]
      simp only [List.length_cons]
      congr 1; omega
    rw [e1, e2]
    simp
theorem Kept.setCells {S : Nat → Prop} {a : World} {D : Nat} : ∀ (vs : List Value) (o : Nat) (b : World), Kept S a b → (S D ∨ a.heap.size ≤ D) → Kept S a (b.setCells D o vs)
  | [], o, b, h, _ => h
  | v :: r, o, b, h, hp => by
    rw [World.setCells]
    exact Kept.setCells r (o + 1) _ (Kept.setCell (p := ⟨D, o, none⟩) h hp v) hp
section
variable {D : Nat} {w : World} {cnt fst frm : List Int} {pl : Value} {full : Bool}
theorem DecSt.rowCnt (h : DecSt D w cnt fst frm pl full) (zs : List Int) (hz : zs.length = 16) : DecSt D (w.setCells D 0 (arrC zs).toList) zs fst frm pl full :=
  ⟨hz, h.l2, h.l3, by
    have h1 := h.l1
    rw [setCells_cells _ 0 w _ h.obj (by rw [cat3_len _ _ _ _ _ h.l1 h.l2 h.l3]; simp [arrC, hz])]
    unfold cat3
    rw [List.take_zero, List.nil_append, List.drop_append_of_le_length (by simp [arrC, hz, h1]), List.drop_of_length_le (by simp [arrC, hz, h1])]
    simp [arrC]⟩
theorem DecSt.rowFst (h : DecSt D w cnt fst frm pl full) (zs : List Int) (hz : zs.length = 16) : DecSt D (w.setCells D 16 (arrC zs).toList) cnt zs frm pl full :=
  ⟨h.l1, hz, h.l3, by
    have h1 := h.l1; have h2 := h.l2
    rw [setCells_cells _ 16 w _ h.obj (by rw [cat3_len _ _ _ _ _ h.l1 h.l2 h.l3]; simp [arrC, hz])]
    unfold cat3
    have e1 : (List.map (Value.int .i64) cnt ++ (List.map (Value.int .i64) fst ++ (List.map (Value.int .i64) frm ++ [pl, .bool full]))).take 16 = List.map (Value.int .i64) cnt := by
      rw [List.take_append_of_le_length (by simp [h1]), List.take_of_length_le (by simp [h1])]
    have e2 : (List.map (Value.int .i64) cnt ++ (List.map (Value.int .i64) fst ++ (List.map (Value.int .i64) frm ++ [pl, .bool full]))).drop (16 + (arrC zs).toList.length) = List.map (Value.int .i64) frm ++ [pl, .bool full] := by
      have e3 : 16 + (arrC zs).toList.length = (List.map (Value.int .i64) cnt ++ List.map (Value.int .i64) fst).length := by simp [arrC, hz, h1, h2]
      rw [e3, ← List.append_assoc, List.drop_left]
    rw [e1, e2]
    simp [arrC]⟩
theorem DecSt.stores (h : DecSt D w cnt fst frm pl full) (o : Nat) (ho : o + 16 ≤ 50) (zs : List Int) (hz : zs.length = 16) : (storeCells ⟨D, o, none⟩ (arrC zs).toList).run Tryz.prog w = .ok () (w.setCells D o (arrC zs).toList) := by
  have := run_storeCells_cells (P := Tryz.prog) D o (arrC zs).toList 0 w (fun j hj => by
    rw [obj_cell h.obj, List.getElem?_toArray]
    rw [List.getElem?_eq_getElem (by rw [cat3_len _ _ _ _ _ h.l1 h.l2 h.l3]; simp [arrC, hz] at hj; omega)]; rfl) (fun j _ => h.free _) (fun v hv => by
    simp [arrC] at hv
    obtain ⟨x, _, rfl⟩ := hv
    rfl)
  simpa using this
theorem DecSt.range1 (h : DecSt D w cnt fst frm pl full) : w.rangeAt D 0 (cnt.map (.int .i64)) := by
  intro j v hv
  have hj : j < 16 := by have := (List.getElem?_eq_some_iff.1 hv).1; simp [h.l1] at this; exact this
  rw [Nat.zero_add, h.atC j hj, ← hv]
  have := h.l1
  simp [List.getD, this, hj]
theorem DecSt.range3 (h : DecSt D w cnt fst frm pl full) : w.rangeAt D 32 (frm.map (.int .i64)) := by
  intro j v hv
  have hj : j < 16 := by have := (List.getElem?_eq_some_iff.1 hv).1; simp [h.l3] at this; exact this
  rw [h.atM j hj, ← hv]
  have := h.l3
  simp [List.getD, this, hj]
end

/-- Where each length begins among the places. -/
def sN (cs : List Int) : Nat → Int
  | 0 => 0
  | n + 1 => sN cs n + cs.getD n 0
def fromP (cs : List Int) (n : Nat) : List Int := (List.range 16).map (fun m : Nat => if m < n then sN cs m else 0)
theorem fromP_len (cs : List Int) (n : Nat) : (fromP cs n).length = 16 := by simp [fromP]
theorem fromP_one (cs : List Int) : fromP cs 1 = zer16 := by
  apply List.ext_getElem (by simp [fromP, zer16])
  intro i h1 h2
  simp only [fromP, List.getElem_map, List.getElem_range, zer16, List.getElem_replicate]
  split
  · have : i = 0 := by omega
    subst this; rfl
  · rfl
theorem fromP_step (cs : List Int) (n : Nat) (h : n < 16) : fromP cs (n + 1) = (fromP cs n).set n (sN cs n) := by
  apply List.ext_getElem (by simp [fromP])
  intro i h1 h2
  rw [List.getElem_set]
  simp only [fromP, List.getElem_map, List.getElem_range]
  by_cases e : n = i
  · subst e; rw [if_pos (by omega), if_pos rfl]
  · rw [if_neg e]
    by_cases h3 : i < n
    · rw [if_pos (by omega), if_pos h3]
    · rw [if_neg (by omega), if_neg h3]
theorem fromP_get (cs : List Int) (n m : Nat) (h : m < 16) (hn : m < n) : (fromP cs n).getD m 0 = sN cs m := by simp [fromP, List.getD, h, hn]
/-- The counts without those of length 0. -/
def cnt0 (ls : List Int) : List Int := (cntsL ls).set 0 0
theorem cnt0_get (ls : List Int) (n : Nat) (h : n < 16) : (cnt0 ls).getD n 0 = if n = 0 then 0 else ((ls.count (n : Int) : Nat) : Int) := by
  unfold cnt0
  by_cases e : n = 0
  · subst e; simp [List.getD, cnts_len]
  · rw [if_neg e, ← cnts_get ls n h]
    simp [List.getD, List.getElem?_set_ne (show 0 ≠ n by omega)]
theorem fC_cnt0 (ls : List Int) : ∀ n, fC (cnt0 ls) n = fC (cntsL ls) n
  | 0 => rfl
  | 1 => rfl
  | n + 2 => by
    have ih := fC_cnt0 ls (n + 1)
    have e : (cnt0 ls).getD (n + 1) 0 = (cntsL ls).getD (n + 1) 0 := by
      unfold cnt0
      simp [List.getD, List.getElem?_set_ne (show 0 ≠ n + 1 by omega)]
    show (fC (cnt0 ls) (n + 1) + (cnt0 ls).getD (n + 1) 0) * 2 = (fC (cntsL ls) (n + 1) + (cntsL ls).getD (n + 1) 0) * 2
    rw [ih, e]
theorem firsts_cnt0 (ls : List Int) : firstsP (cnt0 ls) 16 = firstsP (cntsL ls) 16 := by
  unfold firstsP
  apply List.map_congr_left
  intro m _
  rw [fC_cnt0]
end Go.Proofs.YtfmjfgmbjdhogaaGreatDoor

namespace Go.Proofs.YtfmjfgmbjdhogaaGreatDoor
open Go.RowKit
set_option linter.unusedVariables false
set_option linter.unusedSimpArgs false

end Go.Proofs.YtfmjfgmbjdhogaaGreatDoor
