/-
  The law NameParts.
-/
import Derived.Test.YtamoojalfpghhaaDoorRJoin
namespace Go.Proofs.YtamoojalfpghhaaDoor
open Go.RowKit Go.Shelf
set_option linter.unusedVariables false
set_option linter.unusedSimpArgs false

theorem partsOf_len {l : List UInt8} {K : List (List UInt8)} (h : partsOf l = some K) : K.length ≤ l.length + 1 := by
  unfold partsOf at h
  split at h
  · cases h
  · split at h
    · cases h; exact keep_len l
    · cases h
theorem both_parts (X : ByteArray) (hX : X.size ≤ 1000000) : ∃ (K : List (List UInt8)) (e0 : Int), K.length ≤ X.size + 1 ∧
    (∀ W, Calls Tryd.prog 6 #[.string X] W fun e w' => ∃ a c, e = .returned (.tuple #[.slice a K.length c, .int .i64 e0]) ∧ RdS w' w'.heap.size a K ∧ Kept NoB W w') ∧
    (∀ W, Calls Tryd.prog 10 #[.string X] W fun e w' => ∃ a c, e = .returned (.tuple #[.slice a K.length c, .int .i64 e0]) ∧ RdS w' w'.heap.size a K ∧ Kept NoB W w') := by
  have hl : X.data.toList.length = X.size := by rw [Array.length_toList]; rfl
  have hp := fun W => parts_calls X.data.toList W (by omega)
  rw [strB_of] at hp
  have hq := fun W => rparts_any X W hX
  cases hK : partsOf X.data.toList with
  | none =>
    refine ⟨[], 9, by simp, fun W => (hp W).mono ?_, fun W => (hq W).mono ?_⟩
    · rintro e w' (⟨_, rfl, hb⟩ | ⟨ps, a, c, h, _⟩)
      · exact ⟨none, 0, rfl, fun i hi => by simp at hi, Below.k hb⟩
      · rw [hK] at h; cases h
    · rintro e w' (⟨_, rfl, hb⟩ | ⟨ps, a, c, h, _⟩)
      · exact ⟨none, 0, rfl, fun i hi => by simp at hi, hb⟩
      · rw [hK] at h; cases h
  | some K =>
    refine ⟨K, 0, by have := partsOf_len hK; omega, fun W => (hp W).mono ?_, fun W => (hq W).mono ?_⟩
    · rintro e w' (⟨h, _⟩ | ⟨ps, a, c, h, rfl, ho, hb⟩)
      · rw [hK] at h; cases h
      · rw [hK] at h; cases h
        exact ⟨a, c, rfl, own_readsS ho rfl, Below.k hb⟩
    · rintro e w' (⟨h, _⟩ | ⟨ps, a, c, h, rfl, ho⟩)
      · rw [hK] at h; cases h
      · rw [hK] at h; cases h
        exact ⟨a, c, rfl, ho.reads, ho.kept⟩

set_option maxRecDepth 20000 in
set_option maxHeartbeats 4000000 in
theorem nameParts_law (v0 v1 : Value) (w : World) (r0 : Arg w 9 v0) (r1 : Arg w 23 v1) (hsm : SmallS w v1) :
    Calls Tryd.prog 4 #[v0, v1] w fun e w' => e = .returned (.bool true) ∧ Below w.heap.size w w' := by
  obtain ⟨S, rfl, hSm⟩ := r0.string Tryd.underlying9
  obtain ⟨ao, cap, ps, rfl, hpc, hcm, hrd, _, hnil⟩ := r1.strs
  have hb : ∀ p ∈ ps, p.length ≤ 140737488351232 := by
    intro p hp
    obtain ⟨i, hi, rfl⟩ := List.getElem_of_mem hp
    obtain ⟨g, off, rfl, _, hc⟩ := hrd i hi
    have := hsm _ _ _ rfl i hi (strB (ps.getD i [])) (by rw [addr_add]; exact hc)
    rw [strB_size] at this
    simpa [List.getD, hi] using this
  have HR := Lib.hid hrd
  clear hsm hrd hnil r0 r1 hcm
  by_cases h1 : (5000 : Int) < (S.size : Int)
  · clear hb
    go_enter Tryd.func4, Tryd.ntmps4
    go_wp2_with fail
    refine (awake_any _).mono ?_
    rintro e w2 ⟨rfl, hb2⟩
    have HB2 := Lib.hid hb2
    clear hb2
    go_wp2
    go_ret
    exact ⟨rfl, HB2.out⟩
  · by_cases h2 : (20 : Int) < (ps.length : Int)
    · clear hb
      go_enter Tryd.func4, Tryd.ntmps4
      go_wp2_with fail
      refine (awake_any _).mono ?_
      rintro e w2 ⟨rfl, hb2⟩
      have HB2 := Lib.hid hb2
      clear hb2
      go_wp2
      go_ret
      exact ⟨rfl, HB2.out⟩
    · have HJ := Lib.hid (fun W (h : RdS W w.heap.size ao ps) => rjoin_any ao cap _ ps W h (by omega) hb)
      have HNJ := Lib.hid (fun W (h : RdS W w.heap.size ao ps) (hj : (joinB ps).length ≤ 5000) => njoin_any ao cap _ ps W h hpc (by omega) (by omega))
      obtain ⟨XJ, hXJ⟩ : ∃ XJ, XJ = strB (joinB ps) := ⟨_, rfl⟩
      have hjl : XJ.size = (joinB ps).length := by rw [hXJ, strB_size]
      rw [← hXJ] at HJ HNJ
      obtain ⟨n, hn⟩ : ∃ n, n = ps.length := ⟨_, rfl⟩
      rw [← hn] at HJ HNJ h2 ⊢
      have HJl := Lib.hid hjl
      clear hb hpc hXJ hn hjl
      by_cases h3 : (5000 : Int) < (XJ.size : Int)
      · go_enter Tryd.func4, Tryd.ntmps4
        go_wp2_with fail
        refine (HJ.out _ HR.out).mono ?_
        rintro e w1 ⟨rfl, hw1⟩
        rw [hw1]
        clear hw1
        go_wp2_with fail
        refine (awake_any _).mono ?_
        rintro e w2 ⟨rfl, hb2⟩
        have HB2 := Lib.hid hb2
        clear hb2
        go_wp2
        go_ret
        exact ⟨rfl, HB2.out⟩
      · have had := fun W => run_string_add_sum (P := Tryd.prog) W ⟨#[47]⟩ S (by show 1 + S.size ≤ _; omega)
        obtain ⟨SL, hSL⟩ : ∃ SL, SL = (⟨#[47]⟩ : ByteArray) ++ S := ⟨_, rfl⟩
        have hzl : SL.size ≤ 5001 := by rw [hSL, ByteArray.size_append]; show 1 + S.size ≤ _; omega
        rw [← hSL] at had
        clear hSL
        go_enter Tryd.func4, Tryd.ntmps4
        go_wp2_with fail
        refine (HJ.out _ HR.out).mono ?_
        rintro e w1 ⟨rfl, hw1⟩
        rw [hw1]
        clear hw1
        go_wp2
        go_loopw [6, 7, 8, 9, 10, 11] (fun v6 v7 v8 v9 v10 v11 wr => ∃ i : Nat, v6 = .int .i64 (i : Int) ∧ i ≤ 3 ∧ Hid (Kept NoB w wr)) (fun v6 _ _ _ _ _ _ => 3 - (intOf v6).toNat)
        case atStart => exact ⟨0, rfl, by omega, Kept.refl _ _⟩
        case round =>
          obtain ⟨i, rfl, hi, HK⟩ := hrel
          have hcases : i = 0 ∨ i = 1 ∨ i = 2 ∨ i = 3 := by omega
          rcases hcases with rfl | rfl | rfl | rfl
          · obtain ⟨K, e0, hKl, hP, hQ⟩ := both_parts S (by omega)
            obtain ⟨m, hm⟩ : ∃ m, m = K.length := ⟨_, rfl⟩
            have HS := Lib.hid (fun W a c b d (ha : RdS W W.heap.size a K) (hb : RdS W W.heap.size b K) => sameT_any a c K b d K _ _ W ha hb (by omega))
            rw [← hm] at hP hQ HS
            rw [show decide (K = K) = true from decide_eq_true rfl] at HS
            have HP := Lib.hid hP; have HQ := Lib.hid hQ
            have HO1 := Lib.hid (fun W => ok_calls S W (by omega))
            have HO2 := Lib.hid (fun W => rnameOk_any S W (by omega))
            obtain ⟨o, ho⟩ : ∃ o, o = okN S := ⟨_, rfl⟩
            rw [← ho] at HO1 HO2
            have hcx : (wr.alloc (.cells #[.string S, .string XJ, .string SL] 9)).cell? ⟨wr.heap.size, 0, none⟩ = some (.string S) := cell_new 0 rfl
            clear hP hQ ho hm hKl
            go_wp2_with fail
            refine (HP.out _).mono ?_
            rintro e w2 ⟨a1, c1, rfl, hr1, hk2⟩
            have HK2 := Lib.hid ((HK.out.alloc _).trans hk2); have HR1 := Lib.hid hr1
            clear hk2 hr1 hcx
            go_wp2_with fail
            refine (HQ.out _).mono ?_
            rintro e w3 ⟨a2, c2, rfl, hr2, hk3⟩
            have HK3 := Lib.hid (HK2.out.trans hk3); have HR2 := Lib.hid hr2; have HR3 := Lib.hid (HR1.out.keptNo hk3).room
            clear hk3 hr2
            go_wp2_with fail
            refine (HS.out _ _ _ _ _ HR3.out HR2.out).mono ?_
            rintro e w4 ⟨rfl, hk4⟩
            have HK4 := Lib.hid (HK3.out.trans hk4)
            clear hk4
            go_wp2_with fail
            refine (HO1.out _).mono ?_
            rintro e w5 ⟨rfl, hb5⟩
            have HK5 := Lib.hid (HK4.out.trans (Below.k hb5))
            clear hb5
            go_wp2_with fail
            refine (HO2.out _).mono ?_
            rintro e w6 ⟨rfl, hw6⟩
            rw [hw6]
            clear hw6
            have hoo : (o != o) = false := by cases o <;> rfl
            go_wp2
            go_roundw
            case rel => exact ⟨0 + 1, by go_num, by omega, HK5⟩
            case measure => simp [intOf]
          · obtain ⟨K, e0, hKl, hP, hQ⟩ := both_parts XJ (by omega)
            obtain ⟨m, hm⟩ : ∃ m, m = K.length := ⟨_, rfl⟩
            have HS := Lib.hid (fun W a c b d (ha : RdS W W.heap.size a K) (hb : RdS W W.heap.size b K) => sameT_any a c K b d K _ _ W ha hb (by omega))
            rw [← hm] at hP hQ HS
            rw [show decide (K = K) = true from decide_eq_true rfl] at HS
            have HP := Lib.hid hP; have HQ := Lib.hid hQ
            have HO1 := Lib.hid (fun W => ok_calls XJ W (by omega))
            have HO2 := Lib.hid (fun W => rnameOk_any XJ W (by omega))
            obtain ⟨o, ho⟩ : ∃ o, o = okN XJ := ⟨_, rfl⟩
            rw [← ho] at HO1 HO2
            have hcx : (wr.alloc (.cells #[.string S, .string XJ, .string SL] 9)).cell? ⟨wr.heap.size, 1, none⟩ = some (.string XJ) := cell_new 1 rfl
            clear hP hQ ho hm hKl
            go_wp2_with fail
            refine (HP.out _).mono ?_
            rintro e w2 ⟨a1, c1, rfl, hr1, hk2⟩
            have HK2 := Lib.hid ((HK.out.alloc _).trans hk2); have HR1 := Lib.hid hr1
            clear hk2 hr1 hcx
            go_wp2_with fail
            refine (HQ.out _).mono ?_
            rintro e w3 ⟨a2, c2, rfl, hr2, hk3⟩
            have HK3 := Lib.hid (HK2.out.trans hk3); have HR2 := Lib.hid hr2; have HR3 := Lib.hid (HR1.out.keptNo hk3).room
            clear hk3 hr2
            go_wp2_with fail
            refine (HS.out _ _ _ _ _ HR3.out HR2.out).mono ?_
            rintro e w4 ⟨rfl, hk4⟩
            have HK4 := Lib.hid (HK3.out.trans hk4)
            clear hk4
            go_wp2_with fail
            refine (HO1.out _).mono ?_
            rintro e w5 ⟨rfl, hb5⟩
            have HK5 := Lib.hid (HK4.out.trans (Below.k hb5))
            clear hb5
            go_wp2_with fail
            refine (HO2.out _).mono ?_
            rintro e w6 ⟨rfl, hw6⟩
            rw [hw6]
            clear hw6
            have hoo : (o != o) = false := by cases o <;> rfl
            go_wp2
            go_roundw
            case rel => exact ⟨1 + 1, by go_num, by omega, HK5⟩
            case measure => simp [intOf]
          · obtain ⟨K, e0, hKl, hP, hQ⟩ := both_parts SL (by omega)
            obtain ⟨m, hm⟩ : ∃ m, m = K.length := ⟨_, rfl⟩
            have HS := Lib.hid (fun W a c b d (ha : RdS W W.heap.size a K) (hb : RdS W W.heap.size b K) => sameT_any a c K b d K _ _ W ha hb (by omega))
            rw [← hm] at hP hQ HS
            rw [show decide (K = K) = true from decide_eq_true rfl] at HS
            have HP := Lib.hid hP; have HQ := Lib.hid hQ
            have HO1 := Lib.hid (fun W => ok_calls SL W (by omega))
            have HO2 := Lib.hid (fun W => rnameOk_any SL W (by omega))
            obtain ⟨o, ho⟩ : ∃ o, o = okN SL := ⟨_, rfl⟩
            rw [← ho] at HO1 HO2
            have hcx : (wr.alloc (.cells #[.string S, .string XJ, .string SL] 9)).cell? ⟨wr.heap.size, 2, none⟩ = some (.string SL) := cell_new 2 rfl
            clear hP hQ ho hm hKl
            go_wp2_with fail
            refine (HP.out _).mono ?_
            rintro e w2 ⟨a1, c1, rfl, hr1, hk2⟩
            have HK2 := Lib.hid ((HK.out.alloc _).trans hk2); have HR1 := Lib.hid hr1
            clear hk2 hr1 hcx
            go_wp2_with fail
            refine (HQ.out _).mono ?_
            rintro e w3 ⟨a2, c2, rfl, hr2, hk3⟩
            have HK3 := Lib.hid (HK2.out.trans hk3); have HR2 := Lib.hid hr2; have HR3 := Lib.hid (HR1.out.keptNo hk3).room
            clear hk3 hr2
            go_wp2_with fail
            refine (HS.out _ _ _ _ _ HR3.out HR2.out).mono ?_
            rintro e w4 ⟨rfl, hk4⟩
            have HK4 := Lib.hid (HK3.out.trans hk4)
            clear hk4
            go_wp2_with fail
            refine (HO1.out _).mono ?_
            rintro e w5 ⟨rfl, hb5⟩
            have HK5 := Lib.hid (HK4.out.trans (Below.k hb5))
            clear hb5
            go_wp2_with fail
            refine (HO2.out _).mono ?_
            rintro e w6 ⟨rfl, hw6⟩
            rw [hw6]
            clear hw6
            have hoo : (o != o) = false := by cases o <;> rfl
            go_wp2
            go_roundw
            case rel => exact ⟨2 + 1, by go_num, by omega, HK5⟩
            case measure => simp [intOf]
          · have hjl2 : (joinB ps).length ≤ 5000 := by have := HJl.out; omega
            have hnj := HNJ.out wr (HR.out.keptNo HK.out) hjl2
            have HN2 := Lib.hid hnj
            have heq : (XJ.toList == XJ.toList) = true := by simp
            clear hnj hjl2
            go_wp2_with fail
            refine HN2.out.mono ?_
            rintro e w2 ⟨rfl, hb2⟩
            have HB2 := Lib.hid (HK.out.trans (Below.k hb2))
            clear hb2
            go_wp2_with fail
            refine (awake_any _).mono ?_
            rintro e w3 ⟨rfl, hb3⟩
            have HB3 := Lib.hid (HB2.out.trans (Below.k hb3))
            clear hb3
            go_wp2
            go_ret
            exact ⟨rfl, HB3.out.b⟩
