/-
  canon.counts, Kind, refused, Codes, New of lengths that may not be.
-/
import Derived.Test.YtokdlmpnokmniaaNewB
namespace Go.Proofs.Ytokdlmpnokmniaa
open Go.RowKit
set_option linter.unusedVariables false
set_option linter.unusedSimpArgs false

theorem get_mem' {Z : List Int} {p : Nat} (h : p < Z.length) : Z.getD p 0 ∈ Z := by
  have : Z.getD p 0 = Z[p] := by simp [List.getD, h]
  rw [this]; exact List.getElem_mem h
theorem counts_long (a : Option Addr) (c n : Nat) (w : World) (hl : 320 < n) :
    Calls Try.prog 27 #[.slice a n c] w fun e w' => ∃ cs, cs.length = 16 ∧ e = .returned (.tuple #[.agg (arrC cs), .bool false]) ∧ Kept NoB w w' := by
  have hA2 : Arr16 w.heap.size ((w.alloc (.cells (arrC zer16) 62)).alloc (.cells (arrC zer16) 62)) zer16 := ⟨rfl, by
    rw [heap_alloc_old _ _ (by simp)]; exact heap_alloc_new w _⟩
  have hA4 : Arr16 (w.heap.size + 1) ((w.alloc (.cells (arrC zer16) 62)).alloc (.cells (arrC zer16) 62)) zer16 := ⟨rfl, heap_alloc2_new w _ _⟩
  obtain ⟨zs, hzs⟩ : ∃ zs, zs = zer16 := ⟨_, rfl⟩
  have hzl : zs.length = 16 := by rw [hzs]; rfl
  have hA4' : Arr16 (w.heap.size + 1) ((w.alloc (.cells (arrC zer16) 62)).alloc (.cells (arrC zer16) 62)) zs := by rw [hzs]; exact hA4
  have hst := store16 hA2 zs hzl
  have hF2 := hA2.row zs hzl
  have hK0 : Kept NoB w (((w.alloc (.cells (arrC zer16) 62)).alloc (.cells (arrC zer16) 62)).setRow w.heap.size (arrC zs)) := (((Kept.refl _ _).alloc _).alloc _).setRow (.inr (Nat.le_refl _)) _
  have hze : arrC zer16 = #[.int .i64 0, .int .i64 0, .int .i64 0, .int .i64 0, .int .i64 0, .int .i64 0, .int .i64 0, .int .i64 0, .int .i64 0, .int .i64 0, .int .i64 0, .int .i64 0, .int .i64 0, .int .i64 0, .int .i64 0, .int .i64 0] := rfl
  rw [hze] at hst hF2 hK0 hA4'
  have HF := Lib.hid hA4'; have HF2 := Lib.hid hF2; have HK0 := Lib.hid hK0
  have hsz : (arrC zs).size = 16 := by rw [arrC_size, hzl]
  clear hA2 hA4 hA4' hze hF2 hK0 hzs
  go_enter Try.func27, Try.ntmps27
  go_wp2_with (refine wpList_load_row rfl 62 (.tmp 4) rfl (w.heap.size + 1) rfl 62 (arrC zs) (0, 0) (.array 16 3) HF.out.obj Try.underlying62 rfl (by rw [hsz]; exact info16) ?_)
  refine bodyPost_ret (results_cell_tmp rfl _ _ w.heap.size 62 (arrC zs) (0, 0) (.array 16 3) rfl HF2.out.obj Try.underlying62 rfl (by rw [hsz]; exact info16)) rfl ?_
  exact ⟨zs, hzl, rfl, HK0.out⟩

set_option maxRecDepth 20000 in
set_option maxHeartbeats 1000000 in
theorem counts_bad (a : Option Addr) (c B : Nat) (ls : List Int) (w : World) (hr : RdI w B a ls) (hb : ¬ Small 15 ls) (hl : ls.length ≤ 320) (hall : AllI ls) :
    Calls Try.prog 27 #[.slice a ls.length c] w fun e w' => ∃ cs, cs.length = 16 ∧ e = .returned (.tuple #[.agg (arrC cs), .bool false]) ∧ Kept NoB w w' := by
  have HR := Lib.hid hr; have HS := Lib.hid hb; have HAll := Lib.hid hall
  obtain ⟨n, hn⟩ : ∃ n, n = ls.length := ⟨_, rfl⟩
  have HN := Lib.hid hn
  rw [← hn] at hl ⊢
  clear hr hb hn hall
  go_enter Try.func27, Try.ntmps27
  go_wp2
  have hA2 : Arr16 w.heap.size ((w.alloc (.cells (arrC zer16) 62)).alloc (.cells (arrC zer16) 62)) zer16 := ⟨rfl, by
    rw [heap_alloc_old _ _ (by simp)]; exact heap_alloc_new w _⟩
  have hA4 : Arr16 (w.heap.size + 1) ((w.alloc (.cells (arrC zer16) 62)).alloc (.cells (arrC zer16) 62)) (cntsL (ls.take 0)) := ⟨cnts_len _, by
    rw [List.take_zero, cnts_nil]; exact heap_alloc2_new w _ _⟩
  have HA2 := Lib.hid hA2; have HA4 := Lib.hid hA4
  have HK0 : Hid (Kept NoB w ((w.alloc (.cells (arrC zer16) 62)).alloc (.cells (arrC zer16) 62))) := Lib.hid (((Kept.refl _ _).alloc _).alloc _)
  clear hA2 hA4
  obtain ⟨G, hG⟩ : ∃ G, G = w.heap.size := ⟨_, rfl⟩
  rw [← hG] at HA2 HA4 ⊢
  have HG := Lib.hid hG
  clear hG
  go_loopw [13, 6] (fun v13 _v6 wr => ∃ (j : Nat), v13 = .int .i64 (j : Int) ∧ j ≤ n ∧ Hid (Arr16 G wr zer16) ∧ Hid (Arr16 (G + 1) wr (cntsL (ls.take j))) ∧ Hid (Small 15 (ls.take j)) ∧ Hid (Kept NoB w wr)) (fun v13 _ _ => n - (intOf v13).toNat)
  case atStart => exact ⟨0, rfl, by omega, HA2, HA4, Lib.hid (fun z hz => by simp at hz), HK0⟩
  case round =>
    clear HA2 HA4 HK0
    obtain ⟨j, rfl, hj, HA2, HA4, HSm, HK⟩ := hrel
    by_cases hlt : (j : Int) < n
    · obtain ⟨g, off, rfl, _, hc0⟩ := HR.out j (by have := HN.out; omega)
      have hc := HK.out.cell hc0
      have hai := HAll.out (ls.getD j 0) (get_mem' (by have := HN.out; omega))
      by_cases hb : ¬ (0 ≤ ls.getD j 0 ∧ ls.getD j 0 ≤ 15)
      · obtain ⟨y, hy⟩ : ∃ y, y = ls.getD j 0 := ⟨_, rfl⟩
        rw [← hy] at hb hc hai
        obtain ⟨cs, hcs⟩ : ∃ cs, cs = cntsL (ls.take j) := ⟨_, rfl⟩
        have hcl : cs.length = 16 := by rw [hcs, cnts_len]
        have hA4 := HA4.out
        rw [← hcs] at hA4
        have hsz : (arrC cs).size = 16 := by rw [arrC_size, hcl]
        have hst := store16 HA2.out cs hcl
        have HF := Lib.hid hA4
        have HF2 := Lib.hid (HA2.out.row cs hcl)
        have HK2 := Lib.hid (HK.out.setRow (B := G) (.inr (by rw [← HG.out]; exact Nat.le_refl _)) (arrC cs))
        have hbb : y < 0 ∨ (¬ y < 0 ∧ 15 < y) := by omega
        clear hy hcs hA4 hb hc0
        rcases hbb with h1 | ⟨h1, h2⟩
        · go_wp2_with (refine wpList_load_row rfl 62 (.tmp 4) rfl (G + 1) rfl 62 (arrC cs) (0, 0) (.array 16 3) HF.out.obj Try.underlying62 rfl (by rw [hsz]; exact info16) ?_)
          refine bodyPost_ret (results_cell_tmp rfl _ _ G 62 (arrC cs) (0, 0) (.array 16 3) rfl HF2.out.obj Try.underlying62 rfl (by rw [hsz]; exact info16)) rfl ?_
          exact ⟨cs, hcl, rfl, HK2.out⟩
        · go_wp2_with (refine wpList_load_row rfl 62 (.tmp 4) rfl (G + 1) rfl 62 (arrC cs) (0, 0) (.array 16 3) HF.out.obj Try.underlying62 rfl (by rw [hsz]; exact info16) ?_)
          refine bodyPost_ret (results_cell_tmp rfl _ _ G 62 (arrC cs) (0, 0) (.array 16 3) rfl HF2.out.obj Try.underlying62 rfl (by rw [hsz]; exact info16)) rfl ?_
          exact ⟨cs, hcl, rfl, HK2.out⟩
      have hb := Decidable.not_not.1 hb
      clear hai
      obtain ⟨z, hz⟩ : ∃ z : Nat, (z : Int) = ls.getD j 0 := ⟨(ls.getD j 0).toNat, by omega⟩
      rw [← hz] at hc hb
      have hst : ls.take (j + 1) = ls.take j ++ [(z : Int)] := by
        rw [hz, List.take_succ_eq_append_getElem (by have := HN.out; omega)]; simp [List.getD, show j < ls.length by have := HN.out; omega]
      have hz16 : z < 16 := by omega
      have hsm2 : Small 15 (ls.take (j + 1)) := by
        rw [hst]
        intro y hy
        rcases List.mem_append.1 hy with h | h
        · exact HSm.out y h
        · rw [List.mem_singleton.1 h]; omega
      have HSm2 := Lib.hid hsm2
      clear hsm2
      have hcell := HA4.out.cell z hz16
      have hcb : 0 ≤ (cntsL (ls.take j)).getD z 0 ∧ (cntsL (ls.take j)).getD z 0 ≤ 320 := by
        rw [cnts_get _ _ hz16]
        have := List.count_le_length (l := ls.take j) (a := (z : Int))
        rw [List.length_take] at this
        have := HN.out
        omega
      have hsn := cnts_snoc (ls.take j) z hz16
      rw [← hst] at hsn
      obtain ⟨x, hx⟩ : ∃ x, x = (cntsL (ls.take j)).getD z 0 := ⟨_, rfl⟩
      rw [← hx] at hcell hcb hsn
      have hfz : wr.frozen? ⟨G + 1, z, none⟩ = false := obj_free HA4.out.obj z
      have hput := HA4.out.put z (x + 1)
      rw [← hsn] at hput
      have hkp : Kept NoB w (wr.setCell ⟨G + 1, z, none⟩ (.int .i64 (x + 1))) := Kept.setCell (p := ⟨G + 1, z, none⟩) HK.out (.inr (by rw [← HG.out]; simp)) _
      have hA2' : Arr16 G (wr.setCell ⟨G + 1, z, none⟩ (.int .i64 (x + 1))) zer16 := HA2.out.kept (S := fun k => k = G + 1) (Kept.setCell (S := fun k => k = G + 1) (p := ⟨G + 1, z, none⟩) (Kept.refl _ wr) (.inl rfl) _) (by omega)
      have HP := Lib.hid hput; have HKp := Lib.hid hkp; have HA2n := Lib.hid hA2'
      clear hz hst hsn hput hkp hx hc0 hA2'
      go_wp2
      go_roundw
      case rel => exact ⟨j + 1, by go_num, by omega, HA2n, HP, HSm2, HKp⟩
      case measure => simp [intOf]; omega
    · refine (HS.out ?_).elim
      have := HSm.out
      rw [List.take_of_length_le (by have := HN.out; omega)] at this
      exact this

/-- Lengths that may be. -/
structure MayL (ls : List Int) : Prop where
  len : ls.length ≤ 320
  small : Small 15 ls
theorem counts_no (a : Option Addr) (c B : Nat) (ls : List Int) (w : World) (hr : RdI w B a ls) (h : ¬ MayL ls) (hall : AllI ls) :
    Calls Try.prog 27 #[.slice a ls.length c] w fun e w' => ∃ cs, cs.length = 16 ∧ e = .returned (.tuple #[.agg (arrC cs), .bool false]) ∧ Kept NoB w w' := by
  by_cases hl : ls.length ≤ 320
  · exact counts_bad a c B ls w hr (fun hs => h ⟨hl, hs⟩) hl hall
  · exact counts_long a c _ w (by omega)
theorem kind_no (a : Option Addr) (c B : Nat) (ls : List Int) (w : World) (hr : RdI w B a ls) (h : ¬ MayL ls) (hall : AllI ls) :
    Calls Try.prog 11 #[.slice a ls.length c] w fun e w' => e = .returned (.int .i64 0) ∧ Kept NoB w w' := by
  have HCt := Lib.hid (counts_no a c B ls w hr h hall)
  obtain ⟨n, hn⟩ : ∃ n, n = ls.length := ⟨_, rfl⟩
  rw [← hn] at HCt ⊢
  clear hr h hall hn
  go_enter Try.func11, Try.ntmps11
  go_wp2_with fail
  refine HCt.out.mono ?_
  rintro e w1 ⟨cs, hcl, rfl, hk⟩
  have HK := Lib.hid hk
  clear hk
  have hA0 : Arr16 w1.heap.size (w1.alloc (.cells (arrC zer16) 62)) zer16 := ⟨rfl, heap_alloc_new w1 _⟩
  have hst := store16 hA0 cs hcl
  have hK1 : Kept NoB w ((w1.alloc (.cells (arrC zer16) 62)).setRow w1.heap.size (arrC cs)) := (HK.out.alloc _).setRow (.inr HK.out.size) _
  have hze : arrC zer16 = #[.int .i64 0, .int .i64 0, .int .i64 0, .int .i64 0, .int .i64 0, .int .i64 0, .int .i64 0, .int .i64 0, .int .i64 0, .int .i64 0, .int .i64 0, .int .i64 0, .int .i64 0, .int .i64 0, .int .i64 0, .int .i64 0] := rfl
  have hsz : (arrC cs).size = 16 := by rw [arrC_size, hcl]
  rw [hze] at hst hK1
  have HK1 := Lib.hid hK1
  clear hA0 hK1 hze
  go_wp2
  go_ret
  exact ⟨rfl, HK1.out⟩

open Classical in
/-- The kind of any lengths. -/
noncomputable def kindA (ls : List Int) : Int := if MayL ls then kindS ls else 0
theorem kind_any (a : Option Addr) (c B : Nat) (ls : List Int) (w : World) (hr : RdI w B a ls) (hall : AllI ls) :
    Calls Try.prog 11 #[.slice a ls.length c] w fun e w' => e = .returned (.int .i64 (kindA ls)) ∧ Kept NoB w w' := by
  unfold kindA
  by_cases h : MayL ls
  · rw [if_pos h]; exact kind_calls a c B ls w hr h.small h.len
  · rw [if_neg h]; exact kind_no a c B ls w hr h hall
theorem kindA_of (ls : List Int) : kindA ls = 0 ∨ kindA ls = 1 ∨ kindA ls = 2 ∨ kindA ls = 3 ∨ kindA ls = 4 ∨ kindA ls = 5 := by
  unfold kindA
  split
  · exact .inr (kindS_of ls)
  · exact .inl rfl
/-- The error of lengths. -/
noncomputable def errS (ls : List Int) : Int := if kindA ls = 0 then 1 else if kindA ls = 4 ∨ kindA ls = 5 then 3 else 0
theorem err_no {ls : List Int} (h : errS ls ≠ 0) : errS ls = 1 ∨ errS ls = 3 := by
  unfold errS at h ⊢
  split
  · exact .inl rfl
  · split
    · exact .inr rfl
    · rename_i h1 h2; rw [if_neg h1, if_neg h2] at h; omega
theorem err_ok {ls : List Int} (h : errS ls = 0) : MayL ls ∧ refS ls = 0 := by
  have hm : MayL ls := by
    by_cases h1 : MayL ls
    · exact h1
    · unfold errS kindA at h; rw [if_neg h1] at h; simp at h
  refine ⟨hm, ?_⟩
  unfold errS kindA at h
  rw [if_pos hm] at h
  unfold refS
  by_cases h1 : kindS ls = 0
  · rw [if_pos h1] at h; omega
  · rw [if_neg h1] at h; exact h
theorem refused_any (a : Option Addr) (c B : Nat) (ls : List Int) (w : World) (hr : RdI w B a ls) (hall : AllI ls) :
    Calls Try.prog 26 #[.slice a ls.length c] w fun e w' => e = .returned (.int .i64 (errS ls)) ∧ Kept NoB w w' := by
  have HCt := Lib.hid (kind_any a c B ls w hr hall)
  have hR : ∀ k, kindA ls = k → errS ls = if k = 0 then 1 else if k = 4 ∨ k = 5 then 3 else 0 := fun k h => by unfold errS; rw [h]
  have HR := Lib.hid hR
  obtain ⟨R, hRe⟩ : ∃ R, R = errS ls := ⟨_, rfl⟩
  rw [← hRe] at HR ⊢
  obtain ⟨n, hn⟩ : ∃ n, n = ls.length := ⟨_, rfl⟩
  rw [← hn] at HCt ⊢
  clear hr hR hRe hn hall
  rcases kindA_of ls with h | h | h | h | h | h
  all_goals
    rw [h] at HCt
    have hk := HR.out _ h
    simp only [Int.reduceEq, or_false, or_true, if_true, if_false, or_self, false_or, true_or] at hk
    have HK := Lib.hid hk
    clear h hk HR
    go_enter Try.func26, Try.ntmps26
    go_wp2_with fail
    refine HCt.out.mono ?_
    rintro e w1 ⟨rfl, hk⟩
    have HK1 := Lib.hid hk
    clear hk
    go_wp2
    go_ret
    exact ⟨by rw [HK.out]; rfl, HK1.out⟩
theorem codes_no (a : Option Addr) (c B : Nat) (ls : List Int) (w : World) (hr : RdI w B a ls) (hall : AllI ls) (h : errS ls ≠ 0) :
    Calls Try.prog 10 #[.slice a ls.length c] w fun e w' => e = .returned (.tuple #[.slice none 0 0, .int .i64 (errS ls)]) ∧ Kept NoB w w' := by
  have hRf := refused_any a c B ls w hr hall
  have HRf := Lib.hid hRf
  have he := err_no h
  obtain ⟨R, hRe⟩ : ∃ R, R = errS ls := ⟨_, rfl⟩
  rw [← hRe] at HRf he h ⊢
  obtain ⟨n, hn⟩ : ∃ n, n = ls.length := ⟨_, rfl⟩
  rw [← hn] at HRf ⊢
  have g1 : (R == 0) = false := by simp; omega
  clear hr hall hRf hn h he hRe
  go_enter Try.func10, Try.ntmps10
  go_wp2_with fail
  refine HRf.out.mono ?_
  rintro e w1 ⟨rfl, hk⟩
  have HK := Lib.hid hk
  clear hk
  go_wp2
  go_ret2
  exact ⟨rfl, HK.out⟩
theorem new_bad (a : Option Addr) (c B : Nat) (ls : List Int) (w : World) (hr : RdI w B a ls) (hall : AllI ls) (h : errS ls ≠ 0) :
    Calls Try.prog 12 #[.slice a ls.length c] w fun e w' => e = .returned (.tuple #[.pointer none, .int .i64 (errS ls)]) ∧ Kept NoB w w' := by
  have hRf := refused_any a c B ls w hr hall
  have HRf := Lib.hid hRf
  have he := err_no h
  obtain ⟨R, hRe⟩ : ∃ R, R = errS ls := ⟨_, rfl⟩
  rw [← hRe] at HRf he h ⊢
  obtain ⟨n, hn⟩ : ∃ n, n = ls.length := ⟨_, rfl⟩
  rw [← hn] at HRf ⊢
  have g1 : (R == 0) = false := by simp; omega
  clear hr hall hRf hn h he hRe
  go_enter Try.func12, Try.ntmps12
  go_wp2_with fail
  refine HRf.out.mono ?_
  rintro e w1 ⟨rfl, hk⟩
  have HK := Lib.hid hk
  clear hk
  go_wp2
  go_ret2
  exact ⟨rfl, HK.out⟩
end Go.Proofs.Ytokdlmpnokmniaa
