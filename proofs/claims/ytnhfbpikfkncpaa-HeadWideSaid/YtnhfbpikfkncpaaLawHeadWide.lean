/-
  HeadWide: what no octal digits tell a GNU block tells wide, numbers below 0, too, but a size; other blocks refuse it.
-/
import Derived.Test.YtnhfbpikfkncpaaHeadQ
namespace Go.Proofs.Ytnhfbpikfkncpaa
open Go.RowKit
set_option linter.unusedVariables false
set_option linter.unusedSimpArgs false

theorem sh256_pos (m : Nat) (t : Nat) : sh 256 (m : Int) t = ((m / 256 ^ t : Nat) : Int) := by
  induction t with
  | zero => simp [sh]
  | succ t ih =>
    unfold sh
    rw [ih, Nat.pow_succ, ← Nat.div_div_eq_div_mul]
    omega
theorem sh256_neg (m : Nat) (t : Nat) : sh 256 (-(m : Int) - 1) t = -((m / 256 ^ t : Nat) : Int) - 1 := by
  induction t with
  | zero => simp [sh]
  | succ t ih =>
    unfold sh
    rw [ih, Nat.pow_succ, ← Nat.div_div_eq_div_mul]
    omega
theorem wide12 (n : Int) (h : In64I n) : (wideS n 12).2 = true := by
  have hc : 2 ≤ (12 : Int) ∧ (12 : Int) ≤ 12 ∧ (if n < 0 then sh 256 n ((12 : Int).toNat - 1) = -1 else sh 256 n ((12 : Int).toNat - 1) = 0) := by
    refine ⟨by omega, by omega, ?_⟩
    have hp : (256 : Nat) ^ ((12 : Int).toNat - 1) = 309485009821345068724781056 := by decide
    by_cases hn : n < 0
    · rw [if_pos hn]
      obtain ⟨m, rfl⟩ : ∃ m : Nat, n = -(m : Int) - 1 := ⟨(-(n + 1)).toNat, by omega⟩
      rw [sh256_neg, hp, Nat.div_eq_of_lt (by unfold In64I at h; omega)]; rfl
    · rw [if_neg hn]
      obtain ⟨m, rfl⟩ : ∃ m : Nat, n = (m : Int) := ⟨n.toNat, by omega⟩
      rw [sh256_pos, hp, Nat.div_eq_of_lt (by unfold In64I at h; omega)]; rfl
  have e : wideS n 12 = ((fld (wc8 n) ((12 : Int).toNat - 1) ((12 : Int).toNat - 1) false).set 0 (if n < 0 then 255 else 128), true) := if_pos hc
  rw [e]
theorem wide8 (n : Int) (h : 0 ≤ n ∧ n ≤ 2147483647) : (wideS n 8).2 = true := by
  have hc : 2 ≤ (8 : Int) ∧ (8 : Int) ≤ 12 ∧ (if n < 0 then sh 256 n ((8 : Int).toNat - 1) = -1 else sh 256 n ((8 : Int).toNat - 1) = 0) := by
    refine ⟨by omega, by omega, ?_⟩
    have hp : (256 : Nat) ^ ((8 : Int).toNat - 1) = 72057594037927936 := by decide
    rw [if_neg (by omega)]
    obtain ⟨m, rfl⟩ : ∃ m : Nat, n = (m : Int) := ⟨n.toNat, by omega⟩
    rw [sh256_pos, hp, Nat.div_eq_of_lt (by omega)]; rfl
  have e : wideS n 8 = ((fld (wc8 n) ((8 : Int).toNat - 1) ((8 : Int).toNat - 1) false).set 0 (if n < 0 then 255 else 128), true) := if_pos hc
  rw [e]
theorem field_wide (n wd : Int) (h : (wideS n wd).2 = true) : (fieldS n wd true).2 = true := by
  unfold fieldS
  split
  · rename_i h2
    rcases h2 with h2 | h2
    · exact h2
    · cases h2
  · exact h
theorem oct_fits (n : Int) (wd K P : Nat) (hK : wd = K + 1) (hP : 8 ^ K = P) (hw : 2 ≤ wd ∧ wd ≤ 12) : (octS n (wd : Int)).2 = decide (0 ≤ n ∧ n < (P : Int)) := by
  by_cases h0 : 0 ≤ n
  · obtain ⟨m, rfl⟩ : ∃ m : Nat, n = (m : Int) := ⟨n.toNat, by omega⟩
    have hz := sh_zero m K
    rw [hP] at hz
    have e : ((wd : Int).toNat - 1) = K := by omega
    unfold octS
    rw [e]
    by_cases hlt : m < P
    · rw [if_pos ⟨by omega, by omega, h0, hz.2 hlt⟩, decide_eq_true ⟨h0, by omega⟩]
    · rw [if_neg (fun h => hlt (hz.1 h.2.2.2)), decide_eq_false (fun h => hlt (by omega))]
  · unfold octS
    rw [if_neg (fun h => h0 h.2.2.1), decide_eq_false (fun h => h0 h.1)]
/-- The law's block. -/
def hW (g : Bool) (t u gr sz : Int) : HdP := ⟨[110], [], [], 48, g, 0, u, gr, sz, t, 0, 0⟩
theorem hW_ok (g : Bool) (t u gr sz : Int) (ht : In64I t) (hu : 0 ≤ u ∧ u ≤ 2147483647) (hg : 0 ≤ gr ∧ gr ≤ 2147483647) (hs : In64I sz) : HdOk (hW g t u gr sz) :=
  ⟨(by intro x hx; simp [hW] at hx; omega), (by intro x hx; cases hx), (by intro x hx; cases hx), (by show (0 : Int) ≤ 48 ∧ (48 : Int) ≤ 255; omega), (by show In64I 0; unfold In64I; decide), (by show In64I u; unfold In64I; omega), (by show In64I gr; unfold In64I; omega), hs, ht, (by show In64I 0; unfold In64I; decide), (by show In64I 0; unfold In64I; decide)⟩
theorem hW_gnu (t u gr sz : Int) (ht : In64I t) (hu : 0 ≤ u ∧ u ≤ 2147483647) (hg : 0 ≤ gr ∧ gr ≤ 2147483647) (hs : In64I sz) : EncO (hW true t u gr sz) := by
  have z8 : (fieldS 0 8 true).2 = true := by decide +kernel
  exact ⟨fun _ => rfl, ⟨by show ([110] : List Int).length ≤ 100; decide, by show ([110] : List Int).contains 0 = false; decide⟩, ⟨by show ([] : List Int).length ≤ 100; decide, rfl⟩, ⟨by show ([] : List Int).length ≤ 155; decide, rfl⟩, z8, field_wide _ _ (wide8 u hu), field_wide _ _ (wide8 gr hg), field_wide _ _ (wide12 sz hs), field_wide _ _ (wide12 t ht), z8, z8⟩
theorem hW_plain (t u gr : Int) (hu : 0 ≤ u) (hg : 0 ≤ gr) : encOk (hW false t u gr 0) = (decide (u ≤ 2097151) && decide (gr ≤ 2097151) && decide (0 ≤ t) && decide (t ≤ 8589934591)) := by
  have z8 : (fieldS 0 8 false).2 = true := by decide +kernel
  have z12 : (fieldS 0 12 false).2 = true := by decide +kernel
  have f8 : ∀ n : Int, (fieldS n 8 false).2 = (octS n 8).2 := fun n => by unfold fieldS; rw [if_pos (.inr rfl)]
  have f12 : ∀ n : Int, (fieldS n 12 false).2 = (octS n 12).2 := fun n => by unfold fieldS; rw [if_pos (.inr rfl)]
  have o1 := oct_fits u 8 7 2097152 rfl (by decide) (by omega)
  have o2 := oct_fits gr 8 7 2097152 rfl (by decide) (by omega)
  have o3 := oct_fits t 12 11 8589934592 rfl (by decide) (by omega)
  have o1 : (octS u 8).2 = _ := o1
  have o2 : (octS gr 8).2 = _ := o2
  have o3 : (octS t 12).2 = _ := o3
  have e1 : okT [110] 100 = true := by decide
  have e2 : okT [] 100 = true := by decide
  have e3 : okT [] 155 = true := by decide
  show ((!false || ([] : List Int).isEmpty) && okT [110] 100 && (fieldS 0 8 false).2 && (fieldS u 8 false).2 && (fieldS gr 8 false).2 && (fieldS 0 12 false).2 && (fieldS t 12 false).2 && okT [] 100 && (fieldS 0 8 false).2 && (fieldS 0 8 false).2 && okT [] 155) = _
  rw [e1, e2, e3, z8, z12, f8, f8, f12, o1, o2, o3]
  rw [Bool.eq_iff_iff]
  simp only [Bool.and_eq_true, decide_eq_true_eq, Bool.not_false, Bool.true_or, true_and, and_true]
  omega
/-- A struct is loaded where a guard lets it. -/
theorem load_rowG {ops : Array Oper} {rest : List Oper} {o : Oper} {a : Act} {w : World} {Q : Exit → Act → World → Prop} (hw : Region.wanted o (yielded ops a.tmps) = true) (x : Operand) (ho : o.op = .load 23 x)
    (g : Nat) (hx : a.eval x = .pointer (some ⟨g, 0, none⟩)) (h0 : HdP) (hg : w.heap[g]? = some (.cells (hdC h0) 23 (0, 0)))
    (h : wpList Try.prog ops Q rest (a.put o.dst (hdV h0)) w) : wpList Try.prog ops Q (o :: rest) a w :=
  wpList_step fun K hK => by
    simp only [hw, if_true]
    exact wp_load_row 23 x ho g hx 23 (hdC h0) (0, 0) _ hg Try.underlying23 rfl infoHd (hK _ _ h)
theorem zero_store {w : World} {R : Nat} (hR : R = w.heap.size) (h : HdP) : ((w.alloc (.cells #[.string ⟨#[]⟩, .string ⟨#[]⟩, .string ⟨#[]⟩, .int .u8 0, .bool false, .int .i64 0, .int .i64 0, .int .i64 0, .int .i64 0, .int .i64 0, .int .i64 0, .int .i64 0] 23)).setRow R (hdC h)).heap[R]? = some (.cells (hdC h) 23 (0, 0)) ∧ Kept NoB w ((w.alloc (.cells #[.string ⟨#[]⟩, .string ⟨#[]⟩, .string ⟨#[]⟩, .int .u8 0, .bool false, .int .i64 0, .int .i64 0, .int .i64 0, .int .i64 0, .int .i64 0, .int .i64 0, .int .i64 0] 23)).setRow R (hdC h)) := by
  refine ⟨by rw [hR]; exact setRow_heap _ _ _ _ _ _ (heap_alloc_new _ _), kept_setRow ((Kept.refl NoB w).alloc _) (by omega) _⟩

set_option maxRecDepth 100000 in
set_option maxHeartbeats 16000000 in
theorem headWide_walk (t u0 g0 : Int) (w : World) (ht : In64I t) :
    Calls Try.prog 3 #[.int .i64 t, .int .i64 u0, .int .i64 g0] w fun e w' => e = .returned (.bool true) ∧ Below w.heap.size w w' := by
  have hmu : bits .and .i64 u0 2147483647 = u0 % 2147483648 := i64_mask u0 31 (by decide)
  have hmg : bits .and .i64 g0 2147483647 = g0 % 2147483648 := i64_mask g0 31 (by decide)
  obtain ⟨u, hu⟩ : ∃ u, u = u0 % 2147483648 := ⟨_, rfl⟩
  obtain ⟨gr, hgr⟩ : ∃ u, u = g0 % 2147483648 := ⟨_, rfl⟩
  rw [← hu] at hmu
  rw [← hgr] at hmg
  have hub : 0 ≤ u ∧ u ≤ 2147483647 := by omega
  have hgb : 0 ≤ gr ∧ gr ≤ 2147483647 := by omega
  clear hu hgr
  have i0 : In64I 0 := by unfold In64I; decide
  have im : In64I (-1) := by unfold In64I; decide
  obtain ⟨R, hR⟩ : ∃ R, R = w.heap.size := ⟨_, rfl⟩
  obtain ⟨wA, hwA⟩ : ∃ wA, wA = (w.alloc (.cells #[.string ⟨#[]⟩, .string ⟨#[]⟩, .string ⟨#[]⟩, .int .u8 0, .bool false, .int .i64 0, .int .i64 0, .int .i64 0, .int .i64 0, .int .i64 0, .int .i64 0, .int .i64 0] 23)).setRow R (hdC (hW true t u gr 0)) := ⟨_, rfl⟩
  have hzs := zero_store hR (hW true t u gr 0)
  rw [← hwA] at hzs
  have HZs := Lib.hid (heap_alloc_new w (.cells #[.string ⟨#[]⟩, .string ⟨#[]⟩, .string ⟨#[]⟩, .int .u8 0, .bool false, .int .i64 0, .int .i64 0, .int .i64 0, .int .i64 0, .int .i64 0, .int .i64 0, .int .i64 0] 23))
  have HR := Lib.hid hR; have HWA := Lib.hid hwA
  have hRw0 : w.heap.size ≤ R := by omega
  have HA0 := Lib.hid hzs.1; have HKA := Lib.hid hzs.2
  have HK1 := Lib.hid (hW_ok true t u gr 0 ht hub hgb i0)
  have HO1 := Lib.hid (hW_gnu t u gr 0 ht hub hgb i0)
  have HK2 := Lib.hid (hW_ok false t u gr 0 ht hub hgb i0)
  have HF2 := Lib.hid (hW_plain t u gr hub.1 hgb.1)
  have HK3 := Lib.hid (hW_ok true t u gr (-1) ht hub hgb im)
  have HO3 := Lib.hid (hW_gnu t u gr (-1) ht hub hgb im)
  clear hR hwA hzs i0 im
  go_enter Try.func3, Try.ntmps3
  go_wp2_with (first | (refine wpList_store_row rfl 23 (.tmp 7) (.tmp 26) rfl w.heap.size (hdC (hW true t u gr 0)) rfl rfl _ _ HZs.out infoHd rfl (hdC_one _) ?_) | (refine wpList_load_row rfl 23 (.tmp 7) rfl w.heap.size rfl 23 (hdC (hW true t u gr 0)) (0, 0) _ (by rw [← HR.out, ← HWA.out]; exact HA0.out) Try.underlying23 rfl infoHd ?_))
  rw [← HR.out, ← HWA.out]
  have HE1 : Hid (Calls Try.prog 8 #[.agg (hdC (hW true t u gr 0))] wA (EncHR wA (hW true t u gr 0))) := Lib.hid (henc_any (hW true t u gr 0) wA HK1.out (by show 1 ≤ _ ∧ 0 ≤ _ ∧ 0 ≤ _; omega))
  with_reducible refine HE1.out.mono ?_
  rintro e w1 (⟨_, g, rfl, hg, hgw, hk1⟩ | ⟨hno, _⟩)
  case inr => rw [o_enc HO1.out] at hno; cases hno
  have hdec := dec_enc HK1.out HO1.out (by show (0 : Int) ≤ 0; omega)
  have hrd : Reads w1 (some ⟨g, 0, none⟩) (encL (hW true t u gr 0)) := lit_reads (t := 5) (fr := (0, 0)) _ hg (by simp)
  have HD1 := Lib.hid (hdec_any (some ⟨g, 0, none⟩) 512 512 (encL (hW true t u gr 0)) w1 (enc_len HK1.out HO1.out).symm (enc_all HK1.out) hrd (by omega) (by omega))
  have HDec1 := Lib.hid hdec
  have HK1w := Lib.hid (HKA.out.trans hk1)
  have HA1 := Lib.hid (hk1.obj HA0.out (fun h => h))
  clear hg hgw hk1 hdec hrd
  go_wp2_with fail
  with_reducible refine HD1.out.mono ?_
  rintro e w2 ⟨rfl, hk2⟩
  rw [HDec1.out]
  have HK2w := Lib.hid (HK1w.out.trans hk2)
  have HA2 := Lib.hid (hk2.obj HA1.out (fun h => h))
  clear hk2
  obtain ⟨R2, hR2⟩ : ∃ R, R = w2.heap.size := ⟨_, rfl⟩
  obtain ⟨w3, hw3⟩ : ∃ y, y = (w2.alloc (.cells #[.string ⟨#[]⟩, .string ⟨#[]⟩, .string ⟨#[]⟩, .int .u8 0, .bool false, .int .i64 0, .int .i64 0, .int .i64 0, .int .i64 0, .int .i64 0, .int .i64 0, .int .i64 0] 23)).setRow R2 (hdC (hW true t u gr 0)) := ⟨_, rfl⟩
  have hzs := zero_store hR2 (hW true t u gr 0)
  rw [← hw3] at hzs
  have HZ2 := Lib.hid (heap_alloc_new w2 (.cells #[.string ⟨#[]⟩, .string ⟨#[]⟩, .string ⟨#[]⟩, .int .u8 0, .bool false, .int .i64 0, .int .i64 0, .int .i64 0, .int .i64 0, .int .i64 0, .int .i64 0, .int .i64 0] 23))
  have HR2 := Lib.hid hR2; have HW3 := Lib.hid hw3
  have HB3 := Lib.hid hzs.1; have HK3w := Lib.hid (HK2w.out.trans hzs.2); have HA3 := Lib.hid (hzs.2.obj HA2.out (fun h => h))
  clear hR2 hw3 hzs
  have HNe := Lib.hid (fun W => hd_neq_self W (hW true t u gr 0))
  go_upto_region 5 with (refine wpList_store_row rfl 23 (.tmp 10) (.tmp 35) rfl w2.heap.size (hdC (hW true t u gr 0)) rfl rfl _ _ HZ2.out infoHd rfl (hdC_one _) ?_)
  rw [← HR2.out, ← HW3.out]
  clear HZ2 HR2 HW3 HZs HWA HR
  have hne := HNe.out
  have heg := fun W x y => hd_guard W x y (hW true t u gr 0) (hW true t u gr 0)
  have c4 : w3.cell? ⟨R, 4, none⟩ = some (.bool true) := by rw [obj_cell HA3.out 4]; rfl
  have f4 : w3.frozen? ⟨R, 4, none⟩ = false := obj_free HA3.out 4
  have hA4 : (w3.setCell ⟨R, 4, none⟩ (.bool false)).heap[R]? = some (.cells (hdC (hW false t u gr 0)) 23 (0, 0)) := obj_set HA3.out 4 (.bool false)
  have hRw := hRw0
  have hk4 : Kept NoB w (w3.setCell ⟨R, 4, none⟩ (.bool false)) := Kept.setCell (p := ⟨R, 4, none⟩) HK3w.out (.inr hRw) _
  have HA4 := Lib.hid hA4; have HK4w := Lib.hid hk4; have HRw := Lib.hid hRw
  clear hA4 hk4 hRw
  go_upto_region 8 with (first | (refine load_rowG (by rfl) (.tmp 10) rfl R2 rfl _ HB3.out ?_) | (refine load_rowG (by rfl) (.tmp 7) rfl R rfl _ HA3.out ?_) | fail)
  clear hne heg c4 f4
  generalize w3.setCell ⟨R, 4, none⟩ (.bool false) = w4 at HA4 HK4w ⊢
  have HE2 : Hid (Calls Try.prog 8 #[.agg (hdC (hW false t u gr 0))] w4 (EncHR w4 (hW false t u gr 0))) := Lib.hid (henc_any (hW false t u gr 0) w4 HK2.out (by show 1 ≤ _ ∧ 0 ≤ _ ∧ 0 ≤ _; omega))
  have HFx := HF2
  obtain ⟨F, hF⟩ : ∃ F, F = encOk (hW false t u gr 0) := ⟨_, rfl⟩
  obtain ⟨kk, hkk⟩ : ∃ kk : Int, kk = (if F = true then 0 else 16) := ⟨_, rfl⟩
  have HKK := Lib.hid hkk
  have HEn : Hid (∀ e w', EncHR w4 (hW false t u gr 0) e w' → ∃ (v : Value), e = .returned (.tuple #[v, .int .i64 kk]) ∧ Kept NoB w4 w') := Lib.hid (by
    rw [hkk]
    rintro e w' (⟨h1, g', h2, h3, h4, h5⟩ | ⟨h1, h2, h3⟩)
    · exact ⟨_, by rw [h2, hF, h1]; rfl, h5⟩
    · exact ⟨_, by rw [h2, hF, h1]; rfl, h3⟩)
  have hF2 : F = (decide (u ≤ 2097151) && decide (gr ≤ 2097151) && decide (0 ≤ t) && decide (t ≤ 8589934591)) := by rw [hF]; exact HF2.out
  have HFF := Lib.hid hF2
  clear hF hF2 HFx hkk
  go_wp2_with (refine wpList_load_row rfl 23 (.tmp 7) rfl R rfl 23 (hdC (hW false t u gr 0)) (0, 0) _ HA4.out Try.underlying23 rfl infoHd ?_)
  with_reducible refine HE2.out.mono ?_
  intro e w5 h5
  obtain ⟨v5, rfl, hk5⟩ := HEn.out _ _ h5
  have HK5w := Lib.hid (HK4w.out.trans hk5)
  have HA5 := Lib.hid (hk5.obj HA4.out (fun h => h))
  clear h5 hk5
  go_upto_region 9 with fail
  go_cut [14] from 54 to 67 (fun v14 wx => v14 = .bool F ∧ w5 = wx)
  case first =>
    have hFF := HFF.out
    by_cases h1 : u ≤ 2097151
    · by_cases h2 : gr ≤ 2097151
      · by_cases h3 : 0 ≤ t
        · by_cases h4 : t ≤ 8589934591
          · have hF : F = true := by rw [hFF, decide_eq_true h1, decide_eq_true h2, decide_eq_true h3, decide_eq_true h4]; rfl
            clear hFF
            subst hF
            go_wp2
            go_meet
            exact ⟨rfl, rfl⟩
          · have hF : F = false := by rw [hFF, decide_eq_false h4]; simp
            clear hFF
            subst hF
            go_wp2
            go_meet
            exact ⟨rfl, rfl⟩
        · have hF : F = false := by rw [hFF, decide_eq_false h3]; simp
          clear hFF
          subst hF
          go_wp2
          go_meet
          exact ⟨rfl, rfl⟩
      · have hF : F = false := by rw [hFF, decide_eq_false h2]; simp
        clear hFF
        subst hF
        go_wp2
        go_meet
        exact ⟨rfl, rfl⟩
    · have hF : F = false := by rw [hFF, decide_eq_false h1]; simp
      clear hFF
      subst hF
      go_wp2
      go_meet
      exact ⟨rfl, rfl⟩
  case rest =>
  obtain ⟨rfl, rfl⟩ := hcut
  have c4 : w5.cell? ⟨R, 4, none⟩ = some (.bool false) := by rw [obj_cell HA5.out 4]; rfl
  have c8 : w5.cell? ⟨R, 8, none⟩ = some (.int .i64 0) := by rw [obj_cell HA5.out 8]; rfl
  have f4 : w5.frozen? ⟨R, 4, none⟩ = false := obj_free HA5.out 4
  have f8 : w5.frozen? ⟨R, 8, none⟩ = false := obj_free HA5.out 8
  have hA6 : ((w5.setCell ⟨R, 4, none⟩ (.bool true)).setCell ⟨R, 8, none⟩ (.int .i64 (-1))).heap[R]? = some (.cells (hdC (hW true t u gr (-1))) 23 (0, 0)) := obj_set (obj_set HA5.out 4 (.bool true)) 8 (.int .i64 (-1))
  have hk6 : Kept NoB w ((w5.setCell ⟨R, 4, none⟩ (.bool true)).setCell ⟨R, 8, none⟩ (.int .i64 (-1))) := Kept.setCell (p := ⟨R, 8, none⟩) (Kept.setCell (p := ⟨R, 4, none⟩) HK5w.out (.inr HRw.out) _) (.inr HRw.out) _
  have HA6 := Lib.hid hA6; have HK6w := Lib.hid hk6
  clear hA6 hk6
  go_upto_region 11 with fail
  clear c4 c8 f4 f8
  generalize (w5.setCell ⟨R, 4, none⟩ (.bool true)).setCell ⟨R, 8, none⟩ (.int .i64 (-1)) = w6 at HA6 HK6w ⊢
  have HE3 : Hid (Calls Try.prog 8 #[.agg (hdC (hW true t u gr (-1)))] w6 (EncHR w6 (hW true t u gr (-1)))) := Lib.hid (henc_any (hW true t u gr (-1)) w6 HK3.out (by show 1 ≤ _ ∧ 0 ≤ _ ∧ 0 ≤ _; omega))
  go_wp2_with (refine wpList_load_row rfl 23 (.tmp 7) rfl R rfl 23 (hdC (hW true t u gr (-1))) (0, 0) _ HA6.out Try.underlying23 rfl infoHd ?_)
  with_reducible refine HE3.out.mono ?_
  intro e w7 h7
  have h7' : ∃ g, e = .returned (.tuple #[.slice (some ⟨g, 0, none⟩) 512 512, .int .i64 0]) ∧ w7.heap[g]? = some (.cells ((encL (hW true t u gr (-1))).map (Value.int .u8)).toArray 5 (0, 0)) ∧ w6.heap.size ≤ g ∧ Kept NoB w6 w7 := by
    rcases h7 with ⟨_, h⟩ | ⟨hno, _⟩
    · exact h
    · rw [o_enc HO3.out] at hno; cases hno
  obtain ⟨g7, rfl, hg7, hgw7, hk7⟩ := h7'
  clear h7
  have hdec3 := dec_enc_neg HK3.out HO3.out (by show (-1 : Int) < 0; omega)
  have hrd7 : Reads w7 (some ⟨g7, 0, none⟩) (encL (hW true t u gr (-1))) := lit_reads (t := 5) (fr := (0, 0)) _ hg7 (by simp)
  have HD3 := Lib.hid (hdec_any (some ⟨g7, 0, none⟩) 512 512 (encL (hW true t u gr (-1))) w7 (enc_len HK3.out HO3.out).symm (enc_all HK3.out) hrd7 (by omega) (by omega))
  have HDec3 := Lib.hid hdec3
  have HK7w := Lib.hid (HK6w.out.trans hk7)
  clear hg7 hgw7 hk7 hdec3 hrd7
  go_wp2_with fail
  with_reducible refine HD3.out.mono ?_
  rintro e w8 ⟨rfl, hk8⟩
  rw [HDec3.out]
  have HK8w := Lib.hid (HK7w.out.trans hk8)
  clear hk8
  obtain ⟨R3, hR3⟩ : ∃ R, R = w8.heap.size := ⟨_, rfl⟩
  obtain ⟨w9, hw9⟩ : ∃ y, y = (w8.alloc (.cells #[.string ⟨#[]⟩, .string ⟨#[]⟩, .string ⟨#[]⟩, .int .u8 0, .bool false, .int .i64 0, .int .i64 0, .int .i64 0, .int .i64 0, .int .i64 0, .int .i64 0, .int .i64 0] 23)).setRow R3 (hdC hd0) := ⟨_, rfl⟩
  have hzs := zero_store hR3 hd0
  rw [← hw9] at hzs
  have HZ3 := Lib.hid (heap_alloc_new w8 (.cells #[.string ⟨#[]⟩, .string ⟨#[]⟩, .string ⟨#[]⟩, .int .u8 0, .bool false, .int .i64 0, .int .i64 0, .int .i64 0, .int .i64 0, .int .i64 0, .int .i64 0, .int .i64 0] 23))
  have HR3 := Lib.hid hR3; have HW9 := Lib.hid hw9
  have HK9w := Lib.hid (HK8w.out.trans hzs.2)
  clear hR3 hw9 hzs
  go_upto_region 13 with (refine wpList_store_row rfl 23 (.tmp 17) (.tmp 78) rfl w8.heap.size (hdC hd0) rfl rfl _ _ HZ3.out infoHd rfl (hdC_one _) ?_)
  rw [← HR3.out, ← HW9.out]
  clear HZ3 HR3 HW9
  have HA := Lib.hid (awake17 w9)
  cases F with
  | true =>
    have hkk : kk = 0 := by rw [HKK.out]; rfl
    subst hkk
    go_wp2_with fail
    with_reducible refine HA.out.mono ?_
    rintro e wz ⟨rfl, hkz⟩
    have HKz := Lib.hid (HK9w.out.trans hkz)
    clear hkz
    go_wp2
    go_ret
    exact ⟨rfl, HKz.out.belowNo (Below.refl _ _)⟩
  | false =>
    have hkk : kk = 16 := by rw [HKK.out]; rfl
    subst hkk
    go_wp2_with fail
    with_reducible refine HA.out.mono ?_
    rintro e wz ⟨rfl, hkz⟩
    have HKz := Lib.hid (HK9w.out.trans hkz)
    clear hkz
    go_wp2
    go_ret
    exact ⟨rfl, HKz.out.belowNo (Below.refl _ _)⟩

theorem headWide_law (v0 v1 v2 : Value) (w : World) (r0 : Arg w 3 v0) (r1 : Arg w 3 v1) (r2 : Arg w 3 v2) :
    Calls Try.prog 3 #[v0, v1, v2] w fun e w' => e = .returned (.bool true) ∧ Below w.heap.size w w' := by
  obtain ⟨x0, rfl, hx0⟩ := r0.int Try.underlying3
  obtain ⟨x1, rfl, hx1⟩ := r1.int Try.underlying3
  obtain ⟨x2, rfl, hx2⟩ := r2.int Try.underlying3
  exact headWide_walk x0 x1 x2 w (i64_bd hx0)
end Go.Proofs.Ytnhfbpikfkncpaa
