/-
  LensRuns: any lengths are told by runs that are told as these; of what is no length there are none; no more runs than lengths.
-/
import Derived.Test.YtjdhjlfckalkoaaRunsW
import Derived.Test.YtjdhjlfckalkoaaMask
namespace Go.Proofs.Ytjdhjlfckalkoaa
open Go.RowKit
set_option linter.unusedVariables false
set_option linter.unusedSimpArgs false

set_option maxRecDepth 100000 in
set_option maxHeartbeats 4000000 in
theorem lensRuns_walk (al : Option Addr) (cl : Nat) (zs : List Int) (bad0 : Int) (w : World) (hl : RdI w w.heap.size al zs) (hlc : zs.length ≤ cl) (hcl : cl ≤ maxLen) :
    Calls Try.prog 5 #[.slice al zs.length cl, .int .i64 bad0] w fun e w' => e = .returned (.bool true) ∧ Below w.heap.size w w' := by
  have HL := Lib.hid hl
  obtain ⟨i0, hi, hz0, hz1, hz2⟩ := info_parts infoI
  unfold maxLen at hcl
  clear hl
  go_enter Try.func5, Try.ntmps5
  go_upto_block 0 with fail
  go_cut [5, 6, 7, 8] from 12 to 48 (fun v5 v6 v7 v8 wx => ∃ (xs : List Int) (a : Option Addr) (c : Nat), v5 = .slice a xs.length c ∧ xs.length ≤ 300 ∧ Hid (∀ z ∈ xs, 0 ≤ z ∧ z ≤ 15) ∧ Hid (OwnI wx a c xs) ∧ Hid (Kept NoB w wx) ∧ Hid (∀ k, (Value.slice a xs.length c).ownBlock = some k → w.heap.size ≤ k))
  case first =>
    go_wp2_with fail
    go_loopw [5, 6, 7, 8] (fun v5 v6 v7 v8 wr => ∃ (xs : List Int) (a : Option Addr) (c i : Nat), v5 = .slice a xs.length c ∧ v6 = .int .i64 (i : Int) ∧ i ≤ zs.length ∧ xs.length ≤ 300 ∧ Hid (∀ z ∈ xs, 0 ≤ z ∧ z ≤ 15) ∧ Hid (OwnI wr a c xs) ∧ Hid (Kept NoB w wr) ∧ Hid (∀ k, (Value.slice a xs.length c).ownBlock = some k → w.heap.size ≤ k)) (fun _ v6 _ _ _ => zs.length - (intOf v6).toNat)
    case atStart => exact ⟨[], none, 0, 0, rfl, rfl, by omega, by simp, (fun z hz => by cases hz), World.ownsRow_nil _ _ _ _, Kept.refl _ _, (fun k hk => by simp [Value.ownBlock] at hk)⟩
    case round =>
      obtain ⟨xs, a, c, i, rfl, rfl, hiz, hx300, HA, HO, HK, HF⟩ := hrel
      by_cases hgo : i < zs.length ∧ xs.length < 300
      · obtain ⟨g, off, rfl, hgl, hc0⟩ := HL.out i hgo.1
        have hc0' := HK.out.cell hc0
        generalize zs.getD i 0 = z at hc0'
        have hmz := mask65535 z
        obtain ⟨X, hX⟩ : ∃ X : Int, X = z % 65536 := ⟨_, rfl⟩
        rw [← hX] at hmz
        have hXb : 0 ≤ X ∧ X < 65536 := by omega
        have h1 : (i : Int) < zs.length := by omega
        have h2 : (xs.length : Int) < 300 := by omega
        clear hgl hc0 hX
        have hm63 := mask63 (X / 512)
        have hm15 : bits .and .i64 X 15 = X % 16 := i64_mask X 4 (by decide)
        obtain ⟨D, hD⟩ : ∃ D : Int, D = 1 + X / 512 % 64 := ⟨_, rfl⟩
        have hDb : 1 ≤ D ∧ D ≤ 64 := by omega
        obtain ⟨E, hE⟩ : ∃ E : Nat, (E : Int) = X / 16 % D := ⟨(X / 16 % D).toNat, Int.toNat_of_nonneg (Int.emod_nonneg _ (by omega))⟩
        have hE64 : E < 64 := by have := Int.emod_lt_of_pos (X / 16) (show (0 : Int) < D by omega); omega
        have hD2 : 1 + X / 512 % 64 = D := hD.symm
        have hE2 : X / 16 % D = (E : Int) := hE.symm
        have hE3 : (X / 16).tmod D = (E : Int) := by rw [Int.tmod_eq_emod_of_nonneg (by omega)]; exact hE.symm
        clear hD hE
        go_wp2_with fail
        go_loopw [5, 8] (fun v5 v8 wx => ∃ (ys : List Int) (a' : Option Addr) (c' k : Nat), v5 = .slice a' ys.length c' ∧ v8 = .int .i64 (k : Int) ∧ k ≤ E + 1 ∧ ys.length ≤ 300 ∧ Hid (∀ z ∈ ys, 0 ≤ z ∧ z ≤ 15) ∧ Hid (OwnI wx a' c' ys) ∧ Hid (Kept NoB w wx) ∧ Hid (∀ k, (Value.slice a' ys.length c').ownBlock = some k → w.heap.size ≤ k)) (fun _ v8 _ => E + 1 - (intOf v8).toNat)
        case atStart => exact ⟨xs, a, c, 0, rfl, rfl, by omega, hx300, HA, HO, HK, HF⟩
        case round =>
          clear HA HO HK HF hc0' h2 hx300
          obtain ⟨ys, a', c', k, rfl, rfl, hkE, hy300, HA, HO, HK, HF⟩ := hrel
          obtain ⟨n, hn⟩ : ∃ n, n = ys.length := ⟨_, rfl⟩
          rw [← hn] at hy300 HF ⊢
          have HN := Lib.hid hn
          clear hn
          by_cases hin : k ≤ E ∧ n < 300
          · have h3 : (k : Int) ≤ (E : Int) := by omega
            have h4 : (n : Int) < 300 := by omega
            have hrow : wr.ownsRow 0 3 1 (.slice a' n c') n (ys.map (.int .i64)) := by rw [HN.out]; exact HO.out
            obtain ⟨cs, hcs⟩ : ∃ cs, cs = ys.map (Value.int .i64) := ⟨_, rfl⟩
            rw [← hcs] at hrow
            have HRow := Lib.hid (hrow.alloc (.cells #[.int .i64 (X % 16)] 3)); have HCs := Lib.hid hcs; have HIn := Lib.hid hin
            clear hrow hcs hin
            go_wp2_with (at_builtin; refine wpList_app _ rfl _ _ 22 rfl 3 i0 (.int .i64 0) 1 8 Try.underlying22 hi hz0 hz1 hz2 rfl (by decide) _ n cs rfl HRow.out ⟨wr.heap.size, 0, none⟩ 1 1 [.int .i64 (X % 16)] rfl rfl (cell_one_new _ _ _) ?d2 ?d3 ?d4 ?_)
            case d2 => first | rfl | (intro u hu; simp at hu; subst hu; rfl)
            case d3 => unfold maxLen; omega
            case d4 => omega
            intro v' w2 hown' hgrow hnew
            obtain ⟨a4, c4, rfl⟩ := own_shape hown'
            have hx3 : n + 1 = (ys ++ [X % 16]).length := by rw [List.length_append, HN.out]; rfl
            have hmap : cs ++ [.int .i64 (X % 16)] = (ys ++ [X % 16]).map (Value.int .i64) := by rw [HCs.out]; simp
            rw [hmap] at hown'
            have hk2 : Kept NoB w w2 := (HK.out.alloc _).grown hgrow (by
              intro q hq e
              have := HF.out q e
              omega)
            have hf2 : ∀ q, (Value.slice a4 (n + 1) c4).ownBlock = some q → w.heap.size ≤ q := by
              intro q hq
              rcases hnew q hq with h | h
              · exact HF.out q h
              · have := HK.out.size; omega
            have hall : ∀ z ∈ ys ++ [X % 16], 0 ≤ z ∧ z ≤ 15 := by
              intro b hb
              rcases List.mem_append.1 hb with h | h
              · exact HA.out b h
              · simp at h; omega
            rw [hx3] at hown' hf2
            have HO2 := Lib.hid hown'; have HK2 := Lib.hid hk2; have HF2 := Lib.hid hf2; have HA2 := Lib.hid hall; have HX3 := Lib.hid hx3
            clear hown' hk2 hf2 hgrow hnew hmap hall hx3
            go_wp2
            go_roundw
            case rel => exact ⟨ys ++ [X % 16], a4, c4, k + 1, by rw [← HX3.out], by go_num, by have := HIn.out; omega, by rw [← HX3.out]; have := HIn.out; omega, HA2, HO2, HK2, HF2⟩
            case measure => simp [intOf]; have := HIn.out; omega
          · have hex : ¬ (k : Int) ≤ (E : Int) ∨ ((k : Int) ≤ (E : Int) ∧ ¬ (n : Int) < 300) := by omega
            clear hin
            rcases hex with h3 | ⟨h3, h4⟩
            all_goals
              go_wp2
              go_roundw
              case rel => exact ⟨ys, a', c', i + 1, by rw [HN.out], by go_num, by omega, by rw [← HN.out]; exact hy300, HA, HO, HK, by rw [← HN.out]; exact HF⟩
              case measure => simp [intOf]; omega
      · have hex : ¬ (i : Int) < zs.length ∨ ((i : Int) < zs.length ∧ ¬ (xs.length : Int) < 300) := by omega
        clear hgo
        rcases hex with h1 | ⟨h1, h2⟩
        all_goals
          go_wp2
          go_meet
          exact ⟨xs, a, c, rfl, hx300, HA, HO, HK, HF⟩
  case rest =>
  obtain ⟨own, a, c, rfl, ho300, HA, HO, HK, HF⟩ := hcut
  obtain ⟨n, hn⟩ : ∃ n, n = own.length := ⟨_, rfl⟩
  have hok : okL own := ⟨by omega, HA.out⟩
  have hru := runs_any a c own wc.heap.size wc HO.out.reads (by omega)
  rw [← hn] at hru ho300 ⊢
  have HRu := Lib.hid hru; have HOk := Lib.hid hok; have HN := Lib.hid hn
  clear hru hok hn
  go_wp2_with fail
  refine HRu.out.mono ?_
  rintro e w3 ⟨rs, a3, c3, rfl, ho3, hk3, _, hyes, _⟩
  obtain ⟨ht, hlen, _⟩ := hyes HOk.out
  have hrl : rs.length ≤ n := by rw [HN.out]; exact hlen
  have f1 : flatS (n : Int) rs = (own, 0) := by rw [ht.flat n (by omega), if_pos (by rw [HN.out])]
  have hf1 := flat_any (n : Int) a3 c3 rs w3 ho3.reads (by omega)
  rw [f1] at hf1
  have HF1 := Lib.hid hf1
  have HO3 := Lib.hid (hk3.row (S := NoB) HO.out (fun _ _ h => h)); have HK3 := Lib.hid (HK.out.trans hk3)
  have g2 : ¬ (n : Int) < (rs.length : Int) := by omega
  clear hf1 f1 ho3 hk3 hyes ht hlen HRu HO HK
  go_wp2_with fail
  refine HF1.out.mono ?_
  rintro e w4 ⟨a4, c4, rfl, ho4, hk4, _⟩
  have HO4 := Lib.hid (hk4.row (S := NoB) HO3.out (fun _ _ h => h)); have HK4 := Lib.hid (HK3.out.trans hk4)
  have hs : Calls Try.prog 8 #[.slice a4 own.length c4, .slice a n c] w4 fun e w' => e = .returned (.bool true) ∧ Kept NoB w4 w' := by
    have h := sameInts_any a4 c4 own a c own _ _ w4 ho4.reads (own_readsI HO4.out rfl) (by have := HN.out; omega)
    rw [decide_eq_true rfl] at h
    rw [← HN.out] at h ⊢
    exact h
  have HS := Lib.hid hs
  clear hs ho4 hk4 HF1 HO3 HK3
  go_wp2_with fail
  refine HS.out.mono ?_
  rintro e w5 ⟨rfl, hk5⟩
  have HO5 := Lib.hid (hk5.row (S := NoB) HO4.out (fun _ _ h => h)); have HK5 := Lib.hid (HK4.out.trans hk5)
  clear hk5 HS HO4 HK4
  go_upto_region 14 with fail
  have hcase : (0 ≤ bad0 ∧ bad0 ≤ 15) ∨ bad0 < 0 ∨ (¬ bad0 < 0 ∧ 15 < bad0) := by omega
  rcases hcase with ⟨hb1, hb2⟩ | hb1 | ⟨hb1, hb2⟩
  · have hno : ¬ okL (own ++ [16]) := fun h => by have := h.2 16 (by simp); omega
    have hrow : w5.ownsRow 0 3 1 (.slice a n c) n (own.map (.int .i64)) := by rw [HN.out]; exact HO5.out
    obtain ⟨cs, hcs⟩ : ∃ cs, cs = own.map (Value.int .i64) := ⟨_, rfl⟩
    rw [← hcs] at hrow
    have HRow := Lib.hid (hrow.alloc (.cells #[.int .i64 16] 3)); have HCs := Lib.hid hcs; have HNo := Lib.hid hno
    clear hrow hcs hno
    go_wp2_with (at_builtin; refine wpList_app _ rfl _ _ 22 rfl 3 i0 (.int .i64 0) 1 8 Try.underlying22 hi hz0 hz1 hz2 rfl (by decide) _ n cs rfl HRow.out ⟨w5.heap.size, 0, none⟩ 1 1 [.int .i64 16] rfl rfl (cell_one_new _ _ _) ?d2 ?d3 ?d4 ?_)
    case d2 => first | rfl | (intro u hu; simp at hu; subst hu; rfl)
    case d3 => unfold maxLen; omega
    case d4 => omega
    intro v' w6 hown' hgrow hnew
    obtain ⟨a6, c6, rfl⟩ := own_shape hown'
    have hx3 : (own ++ [16]).length = n + 1 := by rw [List.length_append, HN.out]; rfl
    have hmap : cs ++ [.int .i64 16] = (own ++ [16]).map (Value.int .i64) := by rw [HCs.out]; simp
    rw [hmap] at hown'
    have hk6 : Kept NoB w w6 := (HK5.out.alloc _).grown hgrow (by
      intro q hq e
      have := HF.out q (by rw [← HN.out]; exact e)
      omega)
    have hru := runs_any a6 c6 (own ++ [16]) w6.heap.size w6 (own_readsI hown' hx3) (by omega)
    rw [hx3] at hru
    have HRu := Lib.hid hru; have HK6 := Lib.hid hk6
    clear hru hk6 hown' hgrow hnew hmap hx3
    go_wp2_with fail
    refine HRu.out.mono ?_
    rintro e w7 ⟨rs7, a7, c7, rfl, ho7, hk7, _, _, hno7⟩
    have hnil := hno7 HNo.out
    subst hnil
    have HK7 := Lib.hid (HK6.out.trans hk7)
    have hAw := Lib.hid (awake8 w7)
    clear hno7 ho7 hk7 HRu HK6
    go_wp2_with fail
    refine hAw.out.mono ?_
    rintro e w8 ⟨rfl, hb8⟩
    have hfin := (HK7.out.ofBelow hb8).belowNo (Below.refl _ _)
    go_wp2
    go_ret
    exact ⟨rfl, hfin⟩
  · have hno : ¬ okL (own ++ [bad0]) := fun h => by have := h.2 bad0 (by simp); omega
    have hrow : w5.ownsRow 0 3 1 (.slice a n c) n (own.map (.int .i64)) := by rw [HN.out]; exact HO5.out
    obtain ⟨cs, hcs⟩ : ∃ cs, cs = own.map (Value.int .i64) := ⟨_, rfl⟩
    rw [← hcs] at hrow
    have HRow := Lib.hid (hrow.alloc (.cells #[.int .i64 bad0] 3)); have HCs := Lib.hid hcs; have HNo := Lib.hid hno
    clear hrow hcs hno
    go_wp2_with (at_builtin; refine wpList_app _ rfl _ _ 22 rfl 3 i0 (.int .i64 0) 1 8 Try.underlying22 hi hz0 hz1 hz2 rfl (by decide) _ n cs rfl HRow.out ⟨w5.heap.size, 0, none⟩ 1 1 [.int .i64 bad0] rfl rfl (cell_one_new _ _ _) ?d2 ?d3 ?d4 ?_)
    case d2 => first | rfl | (intro u hu; simp at hu; subst hu; rfl)
    case d3 => unfold maxLen; omega
    case d4 => omega
    intro v' w6 hown' hgrow hnew
    obtain ⟨a6, c6, rfl⟩ := own_shape hown'
    have hx3 : (own ++ [bad0]).length = n + 1 := by rw [List.length_append, HN.out]; rfl
    have hmap : cs ++ [.int .i64 bad0] = (own ++ [bad0]).map (Value.int .i64) := by rw [HCs.out]; simp
    rw [hmap] at hown'
    have hk6 : Kept NoB w w6 := (HK5.out.alloc _).grown hgrow (by
      intro q hq e
      have := HF.out q (by rw [← HN.out]; exact e)
      omega)
    have hru := runs_any a6 c6 (own ++ [bad0]) w6.heap.size w6 (own_readsI hown' hx3) (by omega)
    rw [hx3] at hru
    have HRu := Lib.hid hru; have HK6 := Lib.hid hk6
    clear hru hk6 hown' hgrow hnew hmap hx3
    go_wp2_with fail
    refine HRu.out.mono ?_
    rintro e w7 ⟨rs7, a7, c7, rfl, ho7, hk7, _, _, hno7⟩
    have hnil := hno7 HNo.out
    subst hnil
    have HK7 := Lib.hid (HK6.out.trans hk7)
    have hAw := Lib.hid (awake8 w7)
    clear hno7 ho7 hk7 HRu HK6
    go_wp2_with fail
    refine hAw.out.mono ?_
    rintro e w8 ⟨rfl, hb8⟩
    have hfin := (HK7.out.ofBelow hb8).belowNo (Below.refl _ _)
    go_wp2
    go_ret
    exact ⟨rfl, hfin⟩
  · have hno : ¬ okL (own ++ [bad0]) := fun h => by have := h.2 bad0 (by simp); omega
    have hrow : w5.ownsRow 0 3 1 (.slice a n c) n (own.map (.int .i64)) := by rw [HN.out]; exact HO5.out
    obtain ⟨cs, hcs⟩ : ∃ cs, cs = own.map (Value.int .i64) := ⟨_, rfl⟩
    rw [← hcs] at hrow
    have HRow := Lib.hid (hrow.alloc (.cells #[.int .i64 bad0] 3)); have HCs := Lib.hid hcs; have HNo := Lib.hid hno
    clear hrow hcs hno
    go_wp2_with (at_builtin; refine wpList_app _ rfl _ _ 22 rfl 3 i0 (.int .i64 0) 1 8 Try.underlying22 hi hz0 hz1 hz2 rfl (by decide) _ n cs rfl HRow.out ⟨w5.heap.size, 0, none⟩ 1 1 [.int .i64 bad0] rfl rfl (cell_one_new _ _ _) ?d2 ?d3 ?d4 ?_)
    case d2 => first | rfl | (intro u hu; simp at hu; subst hu; rfl)
    case d3 => unfold maxLen; omega
    case d4 => omega
    intro v' w6 hown' hgrow hnew
    obtain ⟨a6, c6, rfl⟩ := own_shape hown'
    have hx3 : (own ++ [bad0]).length = n + 1 := by rw [List.length_append, HN.out]; rfl
    have hmap : cs ++ [.int .i64 bad0] = (own ++ [bad0]).map (Value.int .i64) := by rw [HCs.out]; simp
    rw [hmap] at hown'
    have hk6 : Kept NoB w w6 := (HK5.out.alloc _).grown hgrow (by
      intro q hq e
      have := HF.out q (by rw [← HN.out]; exact e)
      omega)
    have hru := runs_any a6 c6 (own ++ [bad0]) w6.heap.size w6 (own_readsI hown' hx3) (by omega)
    rw [hx3] at hru
    have HRu := Lib.hid hru; have HK6 := Lib.hid hk6
    clear hru hk6 hown' hgrow hnew hmap hx3
    go_wp2_with fail
    refine HRu.out.mono ?_
    rintro e w7 ⟨rs7, a7, c7, rfl, ho7, hk7, _, _, hno7⟩
    have hnil := hno7 HNo.out
    subst hnil
    have HK7 := Lib.hid (HK6.out.trans hk7)
    have hAw := Lib.hid (awake8 w7)
    clear hno7 ho7 hk7 HRu HK6
    go_wp2_with fail
    refine hAw.out.mono ?_
    rintro e w8 ⟨rfl, hb8⟩
    have hfin := (HK7.out.ofBelow hb8).belowNo (Below.refl _ _)
    go_wp2
    go_ret
    exact ⟨rfl, hfin⟩

theorem lensRuns_law (v0 v1 : Value) (w : World) (r0 : Arg w 22 v0) (r1 : Arg w 3 v1) : Calls Try.prog 5 #[v0, v1] w fun e w' => e = .returned (.bool true) ∧ Below w.heap.size w w' := by
  obtain ⟨al, cl, zs, rfl, hlc, hcl, hl, _, _⟩ := r0.ints
  obtain ⟨b, rfl, _⟩ := r1.int Try.underlying3
  exact lensRuns_walk al cl zs b w hl hlc hcl
end Go.Proofs.Ytjdhjlfckalkoaa
