/-
  canon.counts, Kind, refused, Codes, New of lengths that may not be.
  The document's Kind and Codes.
  lens: which lengths a head may tell; the document's HeadOk.
  The document's HeadOk.
-/
import Derived.Test.YtpdlkmacdmnamaaMb12
namespace Go.Proofs.Ytpdlkmacdmnamaa
open Go.RowKit
set_option linter.unusedVariables false
set_option linter.unusedSimpArgs false

theorem get_mem' {Z : List Int} {p : Nat} (h : p < Z.length) : Z.getD p 0 ∈ Z := by
  have : Z.getD p 0 = Z[p] := by simp [List.getD, h]
  rw [this]; exact List.getElem_mem h
theorem counts_long (a : Option Addr) (c n : Nat) (w : World) (hl : 320 < n) :
    Calls Try.prog 58 #[.slice a n c] w fun e w' => ∃ cs, cs.length = 16 ∧ e = .returned (.tuple #[.agg (arrC cs), .bool false]) ∧ Kept NoB w w' := by
  have hA2 : Arr16 w.heap.size ((w.alloc (.cells (arrC zer16) 101)).alloc (.cells (arrC zer16) 101)) zer16 := ⟨rfl, by
    rw [heap_alloc_old _ _ (by simp)]; exact heap_alloc_new w _⟩
  have hA4 : Arr16 (w.heap.size + 1) ((w.alloc (.cells (arrC zer16) 101)).alloc (.cells (arrC zer16) 101)) zer16 := ⟨rfl, heap_alloc2_new w _ _⟩
  obtain ⟨zs, hzs⟩ : ∃ zs, zs = zer16 := ⟨_, rfl⟩
  have hzl : zs.length = 16 := by rw [hzs]; rfl
  have hA4' : Arr16 (w.heap.size + 1) ((w.alloc (.cells (arrC zer16) 101)).alloc (.cells (arrC zer16) 101)) zs := by rw [hzs]; exact hA4
  have hst := store16 hA2 zs hzl
  have hF2 := hA2.row zs hzl
  have hK0 : Kept NoB w (((w.alloc (.cells (arrC zer16) 101)).alloc (.cells (arrC zer16) 101)).setRow w.heap.size (arrC zs)) := (((Kept.refl _ _).alloc _).alloc _).setRow (.inr (Nat.le_refl _)) _
  have hze : arrC zer16 = #[.int .i64 0, .int .i64 0, .int .i64 0, .int .i64 0, .int .i64 0, .int .i64 0, .int .i64 0, .int .i64 0, .int .i64 0, .int .i64 0, .int .i64 0, .int .i64 0, .int .i64 0, .int .i64 0, .int .i64 0, .int .i64 0] := rfl
  rw [hze] at hst hF2 hK0 hA4'
  have HF := Lib.hid hA4'; have HF2 := Lib.hid hF2; have HK0 := Lib.hid hK0
  have hsz : (arrC zs).size = 16 := by rw [arrC_size, hzl]
  clear hA2 hA4 hA4' hze hF2 hK0 hzs
  go_enter Try.func58, Try.ntmps58
  go_wp2_with (refine wpList_load_row rfl 101 (.tmp 4) rfl (w.heap.size + 1) rfl 101 (arrC zs) (0, 0) (.array 16 3) HF.out.obj Try.underlying101 rfl (by rw [hsz]; exact info16) ?_)
  refine bodyPost_ret (results_cell_tmp rfl _ _ w.heap.size 101 (arrC zs) (0, 0) (.array 16 3) rfl HF2.out.obj Try.underlying101 rfl (by rw [hsz]; exact info16)) rfl ?_
  exact ⟨zs, hzl, rfl, HK0.out⟩

set_option maxRecDepth 20000 in
set_option maxHeartbeats 1000000 in
theorem counts_bad (a : Option Addr) (c B : Nat) (ls : List Int) (w : World) (hr : RdI w B a ls) (hb : ¬ Small 15 ls) (hl : ls.length ≤ 320) (hall : AllI ls) :
    Calls Try.prog 58 #[.slice a ls.length c] w fun e w' => ∃ cs, cs.length = 16 ∧ e = .returned (.tuple #[.agg (arrC cs), .bool false]) ∧ Kept NoB w w' := by
  have HR := Lib.hid hr; have HS := Lib.hid hb; have HAll := Lib.hid hall
  obtain ⟨n, hn⟩ : ∃ n, n = ls.length := ⟨_, rfl⟩
  have HN := Lib.hid hn
  rw [← hn] at hl ⊢
  clear hr hb hn hall
  go_enter Try.func58, Try.ntmps58
  go_wp2
  have hA2 : Arr16 w.heap.size ((w.alloc (.cells (arrC zer16) 101)).alloc (.cells (arrC zer16) 101)) zer16 := ⟨rfl, by
    rw [heap_alloc_old _ _ (by simp)]; exact heap_alloc_new w _⟩
  have hA4 : Arr16 (w.heap.size + 1) ((w.alloc (.cells (arrC zer16) 101)).alloc (.cells (arrC zer16) 101)) (cntsL (ls.take 0)) := ⟨cnts_len _, by
    rw [List.take_zero, cnts_nil]; exact heap_alloc2_new w _ _⟩
  have HA2 := Lib.hid hA2; have HA4 := Lib.hid hA4
  have HK0 : Hid (Kept NoB w ((w.alloc (.cells (arrC zer16) 101)).alloc (.cells (arrC zer16) 101))) := Lib.hid (((Kept.refl _ _).alloc _).alloc _)
  clear hA2 hA4
  obtain ⟨G, hG⟩ : ∃ G, G = w.heap.size := ⟨_, rfl⟩
  rw [← hG] at HA2 HA4 ⊢
  have HG := Lib.hid hG
  clear hG
  go_loopw [13, 6] (fun v13 _v6 wr => ∃ (j : Nat), v13 = .int .i64 (j : Int) ∧ j ≤ n ∧ Hid (Arr16 G wr zer16) ∧ Hid (Arr16 (G + 1) wr (cntsL (ls.take j))) ∧ Hid (Small 15 (ls.take j)) ∧ Hid (Kept NoB w wr)) (fun v13 _ _ => n - (intOf v13).toNat)
  case atStart => exact ⟨0, rfl, by omega, HA2, HA4, Lib.hid (fun z hz => by simp at hz), HK0⟩
  case round =>
    clear HA2 HA4 HK0
    obtain ⟨j, rfl, hj, HA2, HA4, HSm, HK⟩ := hrel
    by_cases hlt : (j : Int) < n
    · obtain ⟨g, off, rfl, _, hc0⟩ := HR.out j (by have := HN.out; omega)
      have hc := HK.out.cell hc0
      have hai := HAll.out (ls.getD j 0) (get_mem' (by have := HN.out; omega))
      by_cases hb : ¬ (0 ≤ ls.getD j 0 ∧ ls.getD j 0 ≤ 15)
      · obtain ⟨y, hy⟩ : ∃ y, y = ls.getD j 0 := ⟨_, rfl⟩
        rw [← hy] at hb hc hai
        obtain ⟨cs, hcs⟩ : ∃ cs, cs = cntsL (ls.take j) := ⟨_, rfl⟩
        have hcl : cs.length = 16 := by rw [hcs, cnts_len]
        have hA4 := HA4.out
        rw [← hcs] at hA4
        have hsz : (arrC cs).size = 16 := by rw [arrC_size, hcl]
        have hst := store16 HA2.out cs hcl
        have HF := Lib.hid hA4
        have HF2 := Lib.hid (HA2.out.row cs hcl)
        have HK2 := Lib.hid (HK.out.setRow (B := G) (.inr (by rw [← HG.out]; exact Nat.le_refl _)) (arrC cs))
        have hbb : y < 0 ∨ (¬ y < 0 ∧ 15 < y) := by omega
        clear hy hcs hA4 hb hc0
        rcases hbb with h1 | ⟨h1, h2⟩
        · go_wp2_with (refine wpList_load_row rfl 101 (.tmp 4) rfl (G + 1) rfl 101 (arrC cs) (0, 0) (.array 16 3) HF.out.obj Try.underlying101 rfl (by rw [hsz]; exact info16) ?_)
          refine bodyPost_ret (results_cell_tmp rfl _ _ G 101 (arrC cs) (0, 0) (.array 16 3) rfl HF2.out.obj Try.underlying101 rfl (by rw [hsz]; exact info16)) rfl ?_
          exact ⟨cs, hcl, rfl, HK2.out⟩
        · go_wp2_with (refine wpList_load_row rfl 101 (.tmp 4) rfl (G + 1) rfl 101 (arrC cs) (0, 0) (.array 16 3) HF.out.obj Try.underlying101 rfl (by rw [hsz]; exact info16) ?_)
          refine bodyPost_ret (results_cell_tmp rfl _ _ G 101 (arrC cs) (0, 0) (.array 16 3) rfl HF2.out.obj Try.underlying101 rfl (by rw [hsz]; exact info16)) rfl ?_
          exact ⟨cs, hcl, rfl, HK2.out⟩
      have hb := Decidable.not_not.1 hb
      clear hai
      obtain ⟨z, hz⟩ : ∃ z : Nat, (z : Int) = ls.getD j 0 := ⟨(ls.getD j 0).toNat, by omega⟩
      rw [← hz] at hc hb
      have hst : ls.take (j + 1) = ls.take j ++ [(z : Int)] := by
        rw [hz, List.take_succ_eq_append_getElem (by have := HN.out; omega)]; simp [List.getD, show j < ls.length by have := HN.out; omega]
      have hz16 : z < 16 := by omega
      have hsm2 : Small 15 (ls.take (j + 1)) := by
        rw [hst]
        intro y hy
        rcases List.mem_append.1 hy with h | h
        · exact HSm.out y h
        · rw [List.mem_singleton.1 h]; omega
      have HSm2 := Lib.hid hsm2
      clear hsm2
      have hcell := HA4.out.cell z hz16
      have hcb : 0 ≤ (cntsL (ls.take j)).getD z 0 ∧ (cntsL (ls.take j)).getD z 0 ≤ 320 := by
        rw [cnts_get _ _ hz16]
        have := List.count_le_length (l := ls.take j) (a := (z : Int))
        rw [List.length_take] at this
        have := HN.out
        omega
      have hsn := cnts_snoc (ls.take j) z hz16
      rw [← hst] at hsn
      obtain ⟨x, hx⟩ : ∃ x, x = (cntsL (ls.take j)).getD z 0 := ⟨_, rfl⟩
      rw [← hx] at hcell hcb hsn
      have hfz : wr.frozen? ⟨G + 1, z, none⟩ = false := obj_free HA4.out.obj z
      have hput := HA4.out.put z (x + 1)
      rw [← hsn] at hput
      have hkp : Kept NoB w (wr.setCell ⟨G + 1, z, none⟩ (.int .i64 (x + 1))) := Kept.setCell (p := ⟨G + 1, z, none⟩) HK.out (.inr (by rw [← HG.out]; simp)) _
      have hA2' : Arr16 G (wr.setCell ⟨G + 1, z, none⟩ (.int .i64 (x + 1))) zer16 := HA2.out.kept (S := fun k => k = G + 1) (Kept.setCell (S := fun k => k = G + 1) (p := ⟨G + 1, z, none⟩) (Kept.refl _ wr) (.inl rfl) _) (by omega)
      have HP := Lib.hid hput; have HKp := Lib.hid hkp; have HA2n := Lib.hid hA2'
      clear hz hst hsn hput hkp hx hc0 hA2'
      go_wp2
      go_roundw
      case rel => exact ⟨j + 1, by go_num, by omega, HA2n, HP, HSm2, HKp⟩
      case measure => simp [intOf]; omega
    · refine (HS.out ?_).elim
      have := HSm.out
      rw [List.take_of_length_le (by have := HN.out; omega)] at this
      exact this

/-- Lengths that may be. -/
structure MayL (ls : List Int) : Prop where
  len : ls.length ≤ 320
  small : Small 15 ls
theorem counts_no (a : Option Addr) (c B : Nat) (ls : List Int) (w : World) (hr : RdI w B a ls) (h : ¬ MayL ls) (hall : AllI ls) :
    Calls Try.prog 58 #[.slice a ls.length c] w fun e w' => ∃ cs, cs.length = 16 ∧ e = .returned (.tuple #[.agg (arrC cs), .bool false]) ∧ Kept NoB w w' := by
  by_cases hl : ls.length ≤ 320
  · exact counts_bad a c B ls w hr (fun hs => h ⟨hl, hs⟩) hl hall
  · exact counts_long a c _ w (by omega)
theorem kind_no (a : Option Addr) (c B : Nat) (ls : List Int) (w : World) (hr : RdI w B a ls) (h : ¬ MayL ls) (hall : AllI ls) :
    Calls Try.prog 43 #[.slice a ls.length c] w fun e w' => e = .returned (.int .i64 0) ∧ Kept NoB w w' := by
  have HCt := Lib.hid (counts_no a c B ls w hr h hall)
  obtain ⟨n, hn⟩ : ∃ n, n = ls.length := ⟨_, rfl⟩
  rw [← hn] at HCt ⊢
  clear hr h hall hn
  go_enter Try.func43, Try.ntmps43
  go_wp2_with fail
  refine HCt.out.mono ?_
  rintro e w1 ⟨cs, hcl, rfl, hk⟩
  have HK := Lib.hid hk
  clear hk
  have hA0 : Arr16 w1.heap.size (w1.alloc (.cells (arrC zer16) 101)) zer16 := ⟨rfl, heap_alloc_new w1 _⟩
  have hst := store16 hA0 cs hcl
  have hK1 : Kept NoB w ((w1.alloc (.cells (arrC zer16) 101)).setRow w1.heap.size (arrC cs)) := (HK.out.alloc _).setRow (.inr HK.out.size) _
  have hze : arrC zer16 = #[.int .i64 0, .int .i64 0, .int .i64 0, .int .i64 0, .int .i64 0, .int .i64 0, .int .i64 0, .int .i64 0, .int .i64 0, .int .i64 0, .int .i64 0, .int .i64 0, .int .i64 0, .int .i64 0, .int .i64 0, .int .i64 0] := rfl
  have hsz : (arrC cs).size = 16 := by rw [arrC_size, hcl]
  rw [hze] at hst hK1
  have HK1 := Lib.hid hK1
  clear hA0 hK1 hze
  go_wp2
  go_ret
  exact ⟨rfl, HK1.out⟩

open Classical in
/-- The kind of any lengths. -/
noncomputable def kindA (ls : List Int) : Int := if MayL ls then kindS ls else 0
theorem kind_any (a : Option Addr) (c B : Nat) (ls : List Int) (w : World) (hr : RdI w B a ls) (hall : AllI ls) :
    Calls Try.prog 43 #[.slice a ls.length c] w fun e w' => e = .returned (.int .i64 (kindA ls)) ∧ Kept NoB w w' := by
  unfold kindA
  by_cases h : MayL ls
  · rw [if_pos h]; exact kind_calls a c B ls w hr h.small h.len
  · rw [if_neg h]; exact kind_no a c B ls w hr h hall
theorem kindA_of (ls : List Int) : kindA ls = 0 ∨ kindA ls = 1 ∨ kindA ls = 2 ∨ kindA ls = 3 ∨ kindA ls = 4 ∨ kindA ls = 5 := by
  unfold kindA
  split
  · exact .inr (kindS_of ls)
  · exact .inl rfl
/-- The error of lengths. -/
noncomputable def errS (ls : List Int) : Int := if kindA ls = 0 then 1 else if kindA ls = 4 ∨ kindA ls = 5 then 3 else 0
theorem err_no {ls : List Int} (h : errS ls ≠ 0) : errS ls = 1 ∨ errS ls = 3 := by
  unfold errS at h ⊢
  split
  · exact .inl rfl
  · split
    · exact .inr rfl
    · rename_i h1 h2; rw [if_neg h1, if_neg h2] at h; omega
theorem err_ok {ls : List Int} (h : errS ls = 0) : MayL ls ∧ refS ls = 0 := by
  have hm : MayL ls := by
    by_cases h1 : MayL ls
    · exact h1
    · unfold errS kindA at h; rw [if_neg h1] at h; simp at h
  refine ⟨hm, ?_⟩
  unfold errS kindA at h
  rw [if_pos hm] at h
  unfold refS
  by_cases h1 : kindS ls = 0
  · rw [if_pos h1] at h; omega
  · rw [if_neg h1] at h; exact h
theorem refused_any (a : Option Addr) (c B : Nat) (ls : List Int) (w : World) (hr : RdI w B a ls) (hall : AllI ls) :
    Calls Try.prog 63 #[.slice a ls.length c] w fun e w' => e = .returned (.int .i64 (errS ls)) ∧ Kept NoB w w' := by
  have HCt := Lib.hid (kind_any a c B ls w hr hall)
  have hR : ∀ k, kindA ls = k → errS ls = if k = 0 then 1 else if k = 4 ∨ k = 5 then 3 else 0 := fun k h => by unfold errS; rw [h]
  have HR := Lib.hid hR
  obtain ⟨R, hRe⟩ : ∃ R, R = errS ls := ⟨_, rfl⟩
  rw [← hRe] at HR ⊢
  obtain ⟨n, hn⟩ : ∃ n, n = ls.length := ⟨_, rfl⟩
  rw [← hn] at HCt ⊢
  clear hr hR hRe hn hall
  rcases kindA_of ls with h | h | h | h | h | h
  all_goals
    rw [h] at HCt
    have hk := HR.out _ h
    simp only [Int.reduceEq, or_false, or_true, if_true, if_false, or_self, false_or, true_or] at hk
    have HK := Lib.hid hk
    clear h hk HR
    go_enter Try.func63, Try.ntmps63
    go_wp2_with fail
    refine HCt.out.mono ?_
    rintro e w1 ⟨rfl, hk⟩
    have HK1 := Lib.hid hk
    clear hk
    go_wp2
    go_ret
    exact ⟨by rw [HK.out]; rfl, HK1.out⟩
theorem codes_no (a : Option Addr) (c B : Nat) (ls : List Int) (w : World) (hr : RdI w B a ls) (hall : AllI ls) (h : errS ls ≠ 0) :
    Calls Try.prog 49 #[.slice a ls.length c] w fun e w' => e = .returned (.tuple #[.slice none 0 0, .int .i64 (errS ls)]) ∧ Kept NoB w w' := by
  have hRf := refused_any a c B ls w hr hall
  have HRf := Lib.hid hRf
  have he := err_no h
  obtain ⟨R, hRe⟩ : ∃ R, R = errS ls := ⟨_, rfl⟩
  rw [← hRe] at HRf he h ⊢
  obtain ⟨n, hn⟩ : ∃ n, n = ls.length := ⟨_, rfl⟩
  rw [← hn] at HRf ⊢
  have g1 : (R == 0) = false := by simp; omega
  clear hr hall hRf hn h he hRe
  go_enter Try.func49, Try.ntmps49
  go_wp2_with fail
  refine HRf.out.mono ?_
  rintro e w1 ⟨rfl, hk⟩
  have HK := Lib.hid hk
  clear hk
  go_wp2
  go_ret2
  exact ⟨rfl, HK.out⟩
theorem new_bad (a : Option Addr) (c B : Nat) (ls : List Int) (w : World) (hr : RdI w B a ls) (hall : AllI ls) (h : errS ls ≠ 0) :
    Calls Try.prog 52 #[.slice a ls.length c] w fun e w' => e = .returned (.tuple #[.pointer none, .int .i64 (errS ls)]) ∧ Kept NoB w w' := by
  have hRf := refused_any a c B ls w hr hall
  have HRf := Lib.hid hRf
  have he := err_no h
  obtain ⟨R, hRe⟩ : ∃ R, R = errS ls := ⟨_, rfl⟩
  rw [← hRe] at HRf he h ⊢
  obtain ⟨n, hn⟩ : ∃ n, n = ls.length := ⟨_, rfl⟩
  rw [← hn] at HRf ⊢
  have g1 : (R == 0) = false := by simp; omega
  clear hr hall hRf hn h he hRe
  go_enter Try.func52, Try.ntmps52
  go_wp2_with fail
  refine HRf.out.mono ?_
  rintro e w1 ⟨rfl, hk⟩
  have HK := Lib.hid hk
  clear hk
  go_wp2
  go_ret2
  exact ⟨rfl, HK.out⟩
end Go.Proofs.Ytpdlkmacdmnamaa

namespace Go.Proofs.Ytpdlkmacdmnamaa
open Go.RowKit
set_option linter.unusedVariables false
set_option linter.unusedSimpArgs false

/-- What is known of the lone code, when the first i lengths were looked at. -/
def OneP (ls : List Int) (i : Nat) (one : Bool) : Prop := i = (ls.take i).count 0 + 1 → (one = true ↔ (ls.take i).count 1 = 1)
theorem one_sum : ∀ ls : List Int, ls.count 0 + ls.count 1 ≤ ls.length
  | [] => by simp
  | z :: r => by
    have := one_sum r
    rw [List.count_cons, List.count_cons, List.length_cons]
    by_cases h0 : z = 0
    · subst h0; simp; omega
    · by_cases h1 : z = 1
      · subst h1; simp; omega
      · simp [h0, h1]; omega
theorem oneP_zero {ls : List Int} {i : Nat} {one : Bool} (h : OneP ls i one) (hi : i < ls.length) (hz : ls.getD i 0 = 0) : OneP ls (i + 1) one := by
  unfold OneP at *
  rw [take_snoc ls i hi, hz, List.count_append, List.count_append]
  simp only [List.count_singleton]
  intro e
  have e2 : i = (ls.take i).count 0 + 1 := by simp at e; omega
  rw [h e2]
  simp
theorem oneP_pos {ls : List Int} {i : Nat} {z : Int} (hi : i < ls.length) (hz : ls.getD i 0 = z) (h0 : 0 < z) : OneP ls (i + 1) (z == 1) := by
  unfold OneP
  rw [take_snoc ls i hi, hz, List.count_append, List.count_append]
  have hs := one_sum (ls.take i)
  rw [List.length_take] at hs
  have hz0 : ¬ z = 0 := by omega
  simp only [List.count_singleton]
  intro e
  have e2 : (z == 0) = false := by simpa using hz0
  rw [e2] at e
  simp at e
  have hc1 : (ls.take i).count 1 = 0 := by omega
  rw [hc1]
  by_cases h1 : z = 1
  · subst h1; simp
  · have e3 : (z == 1) = false := by simpa using h1
    rw [e3]; simp

theorem rkind_long (a : Option Addr) (c n : Nat) (w : World) (hl : 320 < n) : Calls Try.prog 23 #[.slice a n c] w fun e w' => e = .returned (.int .i64 0) ∧ Kept NoB w w' := by
  go_enter Try.func23, Try.ntmps23
  go_wp2
  go_ret
  exact ⟨rfl, Kept.refl _ _⟩
theorem kindA_bad {ls : List Int} (h : ¬ MayL ls) : kindA ls = 0 := by unfold kindA; rw [if_neg h]
theorem kindA_may {ls : List Int} (h : MayL ls) : kindA ls = if ls.length = ls.count 0 then 1 else if ls.length = ls.count 0 + 1 ∧ ls.count 1 = 1 then 2 else if 32768 < kraftL ls then 4 else if kraftL ls < 32768 then 5 else 3 := by unfold kindA; rw [if_pos h]; rfl

set_option maxRecDepth 20000 in
set_option maxHeartbeats 2000000 in
theorem rkind_any (a : Option Addr) (c B : Nat) (ls : List Int) (w : World) (hr : RdI w B a ls) (hall : AllI ls) (hl9 : ls.length ≤ 1000000) :
    Calls Try.prog 23 #[.slice a ls.length c] w fun e w' => e = .returned (.int .i64 (kindA ls)) ∧ Kept NoB w w' := by
  by_cases hl : 320 < ls.length
  · rw [kindA_bad (fun h => by have := h.len; omega)]
    exact rkind_long a c _ w hl
  · have HKr := Lib.hid (fun W (hk : Kept NoB w W) => rkraft_calls a c B ls W (hr.kept hk (fun _ _ h => h)) hall (by omega))
    have HR := Lib.hid hr; have HAll := Lib.hid hall
    obtain ⟨KA, hKA⟩ : ∃ KA, KA = kindA ls := ⟨_, rfl⟩
    have HKA := Lib.hid hKA
    rw [← hKA]
    obtain ⟨n, hn⟩ : ∃ n, n = ls.length := ⟨_, rfl⟩
    have HN := Lib.hid hn
    rw [← hn] at hl HKr ⊢
    clear hr hall hn hl9 hKA
    go_enter Try.func23, Try.ntmps23
    go_wp2
    go_loopw [5, 3, 4] (fun v5 v3 v4 wr => ∃ (i u : Nat) (one : Bool), v5 = .int .i64 (i : Int) ∧ v3 = .int .i64 (u : Int) ∧ v4 = .bool one ∧ i ≤ n ∧ u ≤ i ∧ Hid (u + (ls.take i).count 0 = i) ∧ Hid (OneP ls i one) ∧ Hid (Small 15 (ls.take i)) ∧ w = wr) (fun v5 _ _ _ => n - (intOf v5).toNat)
    case atStart => exact ⟨0, 0, false, rfl, rfl, rfl, by omega, by omega, Lib.hid (by simp), Lib.hid (fun h => by simp at h), Lib.hid (fun z hz => by simp at hz), rfl⟩
    case round =>
      obtain ⟨i, u, one, rfl, rfl, rfl, hin, hui, HU, HO, HSm, rfl⟩ := hrel
      by_cases hlt : (i : Int) < n
      · have hil : i < ls.length := by have := HN.out; omega
        obtain ⟨g, off, rfl, _, hc⟩ := HR.out i hil
        have hai := HAll.out (ls.getD i 0) (get_mem' hil)
        obtain ⟨z, hz⟩ : ∃ z, z = ls.getD i 0 := ⟨_, rfl⟩
        rw [← hz] at hc hai
        have HZ := Lib.hid hz
        clear hz
        by_cases hb : ¬ (0 ≤ z ∧ z ≤ 15)
        · have hbad : KA = 0 := by
            rw [HKA.out]
            exact kindA_bad (fun h => hb (by have := h.small _ (get_mem' hil); rw [← HZ.out] at this; exact this))
          have HBad := Lib.hid hbad
          have hbb : z < 0 ∨ (¬ z < 0 ∧ 15 < z) := by omega
          clear hb hbad
          rcases hbb with h1 | ⟨h1, h2⟩
          · go_wp2
            go_ret
            exact ⟨by rw [HBad.out]; rfl, Kept.refl _ _⟩
          · go_wp2
            go_ret
            exact ⟨by rw [HBad.out]; rfl, Kept.refl _ _⟩
        · have hb2 := Decidable.not_not.1 hb
          have hsm2 : Small 15 (ls.take (i + 1)) := by
            rw [take_snoc ls i hil, ← HZ.out]
            intro y hy
            rcases List.mem_append.1 hy with h | h
            · exact HSm.out y h
            · rw [List.mem_singleton.1 h]; exact hb2
          have HSm2 := Lib.hid hsm2
          have h1 : ¬ z < 0 := by omega
          have h2 : ¬ 15 < z := by omega
          by_cases h0 : 0 < z
          · have hu2 : u + 1 + (ls.take (i + 1)).count 0 = i + 1 := by
              rw [take_snoc ls i hil, ← HZ.out, List.count_append]
              have : (z == 0) = false := by simp; omega
              simp only [List.count_singleton, this]
              have := HU.out
              simp; omega
            have HU2 := Lib.hid hu2; have HO2 := Lib.hid (oneP_pos hil HZ.out.symm h0)
            clear hsm2 hu2 hb hb2
            go_wp2
            go_roundw
            case rel => exact ⟨i + 1, u + 1, z == 1, by go_num, by go_num, rfl, by omega, by omega, HU2, HO2, HSm2, by first | trivial | rfl⟩
            case measure => simp [intOf]; omega
          · have hz0 : ls.getD i 0 = 0 := by rw [← HZ.out]; omega
            have hu2 : u + (ls.take (i + 1)).count 0 = i + 1 := by
              rw [take_snoc ls i hil, hz0, List.count_append]
              have := HU.out
              simp; omega
            have HU2 := Lib.hid hu2; have HO2 := Lib.hid (oneP_zero HO.out hil hz0)
            clear hsm2 hu2 hb hb2 hz0
            go_wp2
            go_roundw
            case rel => exact ⟨i + 1, u, one, by go_num, rfl, rfl, by omega, by omega, HU2, HO2, HSm2, by first | trivial | rfl⟩
            case measure => simp [intOf]; omega
      · have hi2 : i = n := by omega
        subst hi2
        have htk : ls.take i = ls := List.take_of_length_le (by have := HN.out; omega)
        have hsm := HSm.out; have ho := HO.out; have hu := HU.out
        rw [htk] at hsm hu
        unfold OneP at ho
        rw [htk] at ho
        have hk := HKA.out
        rw [kindA_may ⟨by have := HN.out; omega, hsm⟩, ← HN.out] at hk
        obtain ⟨kr, hkr⟩ : ∃ kr, kr = kraftL ls := ⟨_, rfl⟩
        have HKr2 := HKr
        rw [← hkr] at hk HKr2
        obtain ⟨c0, hc0⟩ : ∃ x, x = ls.count 0 := ⟨_, rfl⟩
        rw [← hc0] at hk hu ho
        clear HKr hkr hc0 htk hsm HSm HO HU HKA
        by_cases h0 : u = 0
        · rw [if_pos (by omega)] at hk
          have HKf := Lib.hid hk
          have g1 : ((u : Int) == 0) = true := by simp; omega
          clear hk ho hu
          go_wp2_with fail
          refine (HKr2.out _ (Kept.refl _ _)).mono ?_
          rintro e w1 ⟨rfl, hk⟩
          have HK := Lib.hid hk
          clear hk
          go_wp2
          go_ret
          exact ⟨by rw [HKf.out]; rfl, HK.out⟩
        · have g1 : ((u : Int) == 0) = false := by simp; omega
          rw [if_neg (by omega)] at hk
          by_cases hone : u = 1 ∧ one = true
          · obtain ⟨hu1, rfl⟩ := hone
            rw [if_pos ⟨by omega, (ho (by omega)).1 rfl⟩] at hk
            have HKf := Lib.hid hk
            have g2 : ((u : Int) == 1) = true := by simp; omega
            clear hk ho hu hu1
            go_wp2_with fail
            refine (HKr2.out _ (Kept.refl _ _)).mono ?_
            rintro e w1 ⟨rfl, hk⟩
            have HK := Lib.hid hk
            clear hk
            go_wp2
            go_ret
            exact ⟨by rw [HKf.out]; rfl, HK.out⟩
          · rw [if_neg (fun h => hone ⟨by omega, (ho (by omega)).2 h.2⟩)] at hk
            have g2 : ((u : Int) == 1) = false ∨ (((u : Int) == 1) = true ∧ one = false) := by
              by_cases h : u = 1
              · exact .inr ⟨by simp; omega, by
                  cases one with
                  | true => exact absurd ⟨h, rfl⟩ hone
                  | false => rfl⟩
              · exact .inl (by simp; omega)
            have hks : (kr == 32768) = true ∧ KA = 3 ∨ (kr == 32768) = false ∧ 32768 < kr ∧ KA = 4 ∨ (kr == 32768) = false ∧ ¬ 32768 < kr ∧ KA = 5 := by
              by_cases h1 : 32768 < kr
              · rw [if_pos h1] at hk
                exact .inr (.inl ⟨by simp; omega, h1, hk⟩)
              · rw [if_neg h1] at hk
                by_cases h2 : kr < 32768
                · rw [if_pos h2] at hk
                  exact .inr (.inr ⟨by simp; omega, h1, hk⟩)
                · rw [if_neg h2] at hk
                  exact .inl ⟨by simp; omega, hk⟩
            clear hk ho hu hone
            rcases hks with ⟨k1, k2⟩ | ⟨k1, k3, k2⟩ | ⟨k1, k3, k2⟩
            all_goals
              have HKf := Lib.hid k2
              clear k2
              rcases g2 with g2 | ⟨g2, rfl⟩
              all_goals
                go_wp2_with fail
                refine (HKr2.out _ (Kept.refl _ _)).mono ?_
                rintro e w1 ⟨rfl, hk⟩
                have HK := Lib.hid hk
                clear hk
                go_wp2
                go_ret
                exact ⟨by rw [HKf.out]; rfl, HK.out⟩
end Go.Proofs.Ytpdlkmacdmnamaa

namespace Go.Proofs.Ytpdlkmacdmnamaa
open Go.RowKit
set_option linter.unusedVariables false
set_option linter.unusedSimpArgs false

noncomputable def fullB (ls : List Int) : Bool := decide (kindA ls = 3 ∨ kindA ls = 2)
noncomputable def mayB (lit dist : List Int) : Bool := decide (0 < lit.getD 256 0) && fullB lit && (fullB dist || decide (kindA dist = 1))
theorem full_may {ls : List Int} (h : fullB ls = true) : MayL ls := by
  apply Classical.byContradiction
  intro hn
  have := kindA_bad hn
  unfold fullB at h
  rw [this] at h
  exact absurd h (by decide)
set_option maxRecDepth 20000 in
set_option maxHeartbeats 4000000 in
theorem full_any (a : Option Addr) (c B : Nat) (ls : List Int) (w : World) (hr : RdI w B a ls) (hall : AllI ls) :
    Calls Try.prog 42 #[.slice a ls.length c] w fun e w' => e = .returned (.bool (fullB ls)) ∧ Kept NoB w w' := by
  have HK := Lib.hid (kind_any a c B ls w hr hall)
  obtain ⟨n, hn⟩ : ∃ n, n = ls.length := ⟨_, rfl⟩
  rw [← hn] at HK ⊢
  have hk := kindA_of ls
  unfold fullB
  clear hr hall hn
  generalize kindA ls = k at hk HK ⊢
  go_enter Try.func42, Try.ntmps42
  go_wp2_with fail
  with_reducible refine HK.out.mono ?_
  rintro e w1 ⟨rfl, hk1⟩
  have HK1 := Lib.hid hk1
  clear hk1 HK
  rcases hk with rfl | rfl | rfl | rfl | rfl | rfl
  all_goals
    go_wp2
    go_ret
    exact ⟨rfl, HK1.out⟩
set_option maxRecDepth 20000 in
set_option maxHeartbeats 8000000 in
theorem may_any (a : Option Addr) (c B : Nat) (lit : List Int) (b : Option Addr) (d C : Nat) (dist : List Int) (w : World) (hr : RdI w B a lit) (hall : AllI lit) (hr2 : RdI w C b dist) (hall2 : AllI dist) (hl : 257 ≤ lit.length) :
    Calls Try.prog 24 #[.slice a lit.length c, .slice b dist.length d] w fun e w' => e = .returned (.bool (mayB lit dist)) ∧ Kept NoB w w' := by
  have keep : ∀ {W : World} {B : Nat} {a : Option Addr} {zs : List Int}, RdI w B a zs → Kept NoB w W → RdI W B a zs := fun h hk i hi => by
    obtain ⟨g, o, h1, h2, h3⟩ := h i hi
    exact ⟨g, o, h1, h2, hk.cell h3⟩
  have HF1 := Lib.hid (full_any a c B lit w hr hall)
  have HF2 : Hid (∀ W, Kept NoB w W → Calls Try.prog 42 #[.slice b dist.length d] W fun e w' => e = .returned (.bool (fullB dist)) ∧ Kept NoB W w') := Lib.hid (fun W hk => full_any b d C dist W (keep hr2 hk) hall2)
  have HK2 : Hid (∀ W, Kept NoB w W → Calls Try.prog 43 #[.slice b dist.length d] W fun e w' => e = .returned (.int .i64 (kindA dist)) ∧ Kept NoB W w') := Lib.hid (fun W hk => kind_any b d C dist W (keep hr2 hk) hall2)
  obtain ⟨g, o, rfl, _, hc⟩ := hr 256 (by omega)
  obtain ⟨n, hn⟩ : ∃ n, n = lit.length := ⟨_, rfl⟩
  obtain ⟨m, hm⟩ : ∃ m, m = dist.length := ⟨_, rfl⟩
  rw [← hn] at HF1 hl ⊢
  rw [← hm] at HF2 HK2 ⊢
  have hl2 : (256 : Int) < (n : Int) := by omega
  unfold mayB
  generalize fullB lit = f1 at HF1 ⊢
  generalize fullB dist = f2 at HF2 ⊢
  generalize kindA dist = k at HK2 ⊢
  generalize lit.getD 256 0 = x at hc ⊢
  clear hr hall hr2 hall2 hn hm keep
  go_enter Try.func24, Try.ntmps24
  by_cases hx : 0 < x
  · go_wp2_with fail
    with_reducible refine HF1.out.mono ?_
    rintro e w1 ⟨rfl, hk1⟩
    have HK1 := Lib.hid hk1
    clear hk1 HF1
    cases f1 with
    | false =>
      go_wp2
      go_ret
      exact ⟨by simp, HK1.out⟩
    | true =>
      have HC := Lib.hid (HF2.out w1 HK1.out)
      go_wp2_with fail
      with_reducible refine HC.out.mono ?_
      rintro e w2 ⟨rfl, hk2⟩
      have HKw := Lib.hid (HK1.out.trans hk2)
      clear hk2 HC
      cases f2 with
      | true =>
        go_wp2
        go_ret
        exact ⟨by simp [hx], HKw.out⟩
      | false =>
        have HC := Lib.hid (HK2.out w2 HKw.out)
        go_wp2_with fail
        with_reducible refine HC.out.mono ?_
        rintro e w3 ⟨rfl, hk3⟩
        have HKx := Lib.hid (HKw.out.trans hk3)
        clear hk3 HC
        by_cases hk : k = 1
        · have g1 : (k == 1) = true := by rw [hk]; rfl
          go_wp2
          go_ret
          exact ⟨by simp [hx, hk], HKx.out⟩
        · have g1 : (k == 1) = false := by simp [hk]
          go_wp2
          go_ret
          exact ⟨by simp [hx, hk], HKx.out⟩
  · have hx2 : decide (0 < x) = false := decide_eq_false hx
    go_wp2
    go_ret
    exact ⟨by simp [hx2], Kept.refl _ _⟩
/-- The document's HeadOk. -/
noncomputable def headB (lit dist : List Int) : Bool := decide (257 ≤ lit.length ∧ lit.length ≤ 286 ∧ 1 ≤ dist.length ∧ dist.length ≤ 30) && mayB lit dist
end Go.Proofs.Ytpdlkmacdmnamaa

namespace Go.Proofs.Ytpdlkmacdmnamaa
open Go.RowKit
set_option linter.unusedVariables false
set_option linter.unusedSimpArgs false

theorem small_at {ls : List Int} (h : MayL ls) (i : Nat) : 0 ≤ ls.getD i 0 := by
  by_cases hi : i < ls.length
  · have : ls.getD i 0 = ls[i] := by simp [List.getD, hi]
    rw [this]
    exact (h.small _ (List.getElem_mem hi)).1
  · have : ls.getD i 0 = 0 := by simp [List.getD, List.getElem?_eq_none (Nat.le_of_not_lt hi)]
    omega
set_option maxRecDepth 20000 in
set_option maxHeartbeats 8000000 in
theorem headok_any (a : Option Addr) (c B : Nat) (lit : List Int) (b : Option Addr) (d C : Nat) (dist : List Int) (w : World) (hr : RdI w B a lit) (hall : AllI lit) (hr2 : RdI w C b dist) (hall2 : AllI dist) (hl1 : lit.length ≤ 1000000) (hl2 : dist.length ≤ 1000000) :
    Calls Try.prog 17 #[.slice a lit.length c, .slice b dist.length d] w fun e w' => e = .returned (.bool (headB lit dist)) ∧ Kept NoB w w' := by
  have keep : ∀ {W : World} {B : Nat} {a : Option Addr} {zs : List Int}, RdI w B a zs → Kept NoB w W → RdI W B a zs := fun h hk i hi => by
    obtain ⟨g, o, h1, h2, h3⟩ := h i hi
    exact ⟨g, o, h1, h2, hk.cell h3⟩
  have HK1 := Lib.hid (rkind_any a c B lit w hr hall hl1)
  have HK2 : Hid (∀ W, Kept NoB w W → Calls Try.prog 23 #[.slice b dist.length d] W fun e w' => e = .returned (.int .i64 (kindA dist)) ∧ Kept NoB W w') := Lib.hid (fun W hk => rkind_any b d C dist W (keep hr2 hk) hall2 hl2)
  have hsm : 257 ≤ lit.length → lit.getD 256 0 ≠ 0 → headB lit dist = (decide (lit.length ≤ 286 ∧ 1 ≤ dist.length ∧ dist.length ≤ 30) && decide (kindA lit = 3 ∨ kindA lit = 2) && (decide (kindA dist = 3 ∨ kindA dist = 2) || decide (kindA dist = 1))) := fun h h2 => by
    unfold headB mayB
    by_cases hf : fullB lit = true
    · have := small_at (full_may hf) 256
      rw [decide_eq_true (show 0 < lit.getD 256 0 by omega), hf]
      have e : decide (kindA lit = 3 ∨ kindA lit = 2) = true := hf
      rw [e]
      simp [h, fullB]
    · have hf0 : fullB lit = false := by simpa using hf
      have e : decide (kindA lit = 3 ∨ kindA lit = 2) = false := hf0
      rw [hf0, e]
      simp
  have hz : lit.getD 256 0 = 0 → headB lit dist = false := fun h => by unfold headB mayB; rw [h]; simp
  have hout : ¬ (257 ≤ lit.length ∧ lit.length ≤ 286 ∧ 1 ≤ dist.length ∧ dist.length ≤ 30) → headB lit dist = false := fun h => by unfold headB; rw [decide_eq_false h]; rfl
  have hc : 257 ≤ lit.length → ∃ g o, a = some ⟨g, o, none⟩ ∧ w.cell? ⟨g, o + 256, none⟩ = some (.int .i64 (lit.getD 256 0)) := fun h => by
    obtain ⟨g, o, h1, _, h3⟩ := hr 256 (by omega)
    exact ⟨g, o, h1, h3⟩
  obtain ⟨n, hn⟩ : ∃ n, n = lit.length := ⟨_, rfl⟩
  obtain ⟨m, hm⟩ : ∃ m, m = dist.length := ⟨_, rfl⟩
  rw [← hn] at HK1 hsm hout hc ⊢
  rw [← hm] at HK2 hsm hout ⊢
  have hk1 := kindA_of lit
  have hk2 := kindA_of dist
  generalize kindA lit = k1 at HK1 hsm hk1
  generalize kindA dist = k2 at HK2 hsm hk2
  generalize lit.getD 256 0 = x at hc hsm hz
  generalize headB lit dist = r at hsm hz hout ⊢
  clear hr hall hr2 hall2 hn hm keep hl1 hl2
  by_cases hA : n < 257
  · rw [hout (by omega)]
    have g1 : (n : Int) < 257 := by omega
    clear hsm hz hout hc hk1 hk2
    go_enter Try.func17, Try.ntmps17
    go_wp2
    go_ret
    exact ⟨rfl, Kept.refl _ _⟩
  · have g1 : ¬ (n : Int) < 257 := by omega
    by_cases hB : 286 < n ∨ m < 1 ∨ 30 < m
    · rw [hout (by omega)]
      have hex : (286 : Int) < (n : Int) ∨ (¬ (286 : Int) < (n : Int) ∧ (m : Int) < 1) ∨ (¬ (286 : Int) < (n : Int) ∧ ¬ (m : Int) < 1 ∧ (30 : Int) < (m : Int)) := by omega
      clear hsm hz hout hc hk1 hk2 hB
      rcases hex with g2 | ⟨g2, g3⟩ | ⟨g2, g3, g4⟩
      all_goals
        go_enter Try.func17, Try.ntmps17
        go_wp2
        go_ret
        exact ⟨rfl, Kept.refl _ _⟩
    · have g2 : ¬ (286 : Int) < (n : Int) := by omega
      have g3 : ¬ (m : Int) < 1 := by omega
      have g4 : ¬ (30 : Int) < (m : Int) := by omega
      obtain ⟨g, o, rfl, hcell⟩ := hc (by omega)
      have hl : (256 : Int) < (n : Int) := by omega
      by_cases hx : x = 0
      · rw [hz hx]
        have g5 : (x == 0) = true := by rw [hx]; rfl
        clear hsm hz hout hc hk1 hk2 hB hx
        go_enter Try.func17, Try.ntmps17
        go_wp2
        go_ret
        exact ⟨rfl, Kept.refl _ _⟩
      · rw [hsm (by omega) hx]
        have g5 : (x == 0) = false := by simp [hx]
        have hd : decide (n ≤ 286 ∧ 1 ≤ m ∧ m ≤ 30) = true := decide_eq_true (by omega)
        rw [hd]
        clear hsm hz hout hc hB hx hd
        go_enter Try.func17, Try.ntmps17
        go_wp2_with fail
        with_reducible refine HK1.out.mono ?_
        rintro e w1 ⟨rfl, hw1⟩
        have HC := Lib.hid (HK2.out w1 hw1)
        have HW1 := Lib.hid hw1
        clear hw1 HK1
        go_wp2_with fail
        with_reducible refine HC.out.mono ?_
        rintro e w2 ⟨rfl, hw2⟩
        have HW2 := Lib.hid (HW1.out.trans hw2)
        clear hw2 HC HK2
        rcases hk1 with rfl | rfl | rfl | rfl | rfl | rfl <;> rcases hk2 with rfl | rfl | rfl | rfl | rfl | rfl
        all_goals
          go_wp2
          go_ret
          exact ⟨rfl, HW2.out⟩
end Go.Proofs.Ytpdlkmacdmnamaa
