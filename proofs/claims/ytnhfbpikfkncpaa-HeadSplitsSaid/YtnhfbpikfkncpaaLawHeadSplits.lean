/-
  HeadSplits: a path is split at the last slash at which both parts go in, as the document says; joined again it is the path.
-/
import Derived.Test.YtnhfbpikfkncpaaHeadS
import Derived.Test.YtnhfbpikfkncpaaInts
namespace Go.Proofs.Ytnhfbpikfkncpaa
open Go.RowKit
set_option linter.unusedVariables false
set_option linter.unusedSimpArgs false

theorem ba_size_app (a b : ByteArray) : (a ++ b).size = a.size + b.size := by simp
theorem spl_join (S : ByteArray) (i : Nat) (hi : i < S.size) (h47 : S.data.toList.getD i 0 = 47) : S.extract 0 i ++ ⟨#[47]⟩ ++ S.extract (i + 1) S.size = S := by
  apply ByteArray.ext
  apply Array.ext'
  have h1 := Lib.extract_toList S 0 i
  have h2 := Lib.extract_toList S (i + 1) S.size
  rw [Lib.toList_data] at h1 h2
  have hl : i < S.data.toList.length := by rw [← Lib.size_eq]; exact hi
  have e : (S.extract 0 i ++ ⟨#[47]⟩ ++ S.extract (i + 1) S.size).data.toList = (S.extract 0 i).data.toList ++ [47] ++ (S.extract (i + 1) S.size).data.toList := by simp
  rw [e, h1, h2, List.drop_zero, Nat.sub_zero, List.take_of_length_le (i := S.size - (i + 1)) (by rw [List.length_drop, ← Lib.size_eq]; omega)]
  have hg : S.data.toList[i] = 47 := by rw [← h47]; simp [List.getD]; rw [Array.getElem?_eq_getElem (by exact hi)]; rfl
  conv => rhs; rw [← List.take_append_drop i S.data.toList, List.drop_eq_getElem_cons hl, hg]
  simp
theorem spl_spec (S : ByteArray) : ((splB S).2.2 = false ∧ (splB S).1 = ⟨#[]⟩ ∧ (splB S).2.1 = ⟨#[]⟩) ∨ ((splB S).2.2 = true ∧ (splB S).1 = ⟨#[]⟩ ∧ (splB S).2.1 = S ∧ S.size ≤ 100) ∨
    ((splB S).2.2 = true ∧ 1 ≤ (splB S).1.size ∧ (splB S).1.size ≤ 155 ∧ (splB S).2.1.size ≤ 100 ∧ (splB S).1 ++ ⟨#[47]⟩ ++ (splB S).2.1 = S) := by
  unfold splB
  split
  · exact .inl ⟨rfl, rfl, rfl⟩
  · split
    · rename_i h; exact .inr (.inl ⟨rfl, rfl, rfl, h⟩)
    · cases h : spl S.data.toList (S.size - 1) with
      | none => exact .inl ⟨rfl, rfl, rfl⟩
      | some i =>
        obtain ⟨hc, h1, h2⟩ := spl_some _ _ _ h
        simp only [splC, Bool.and_eq_true, decide_eq_true_eq, ← Lib.size_eq] at hc
        obtain ⟨⟨⟨a, b⟩, c⟩, d⟩ := hc
        refine .inr (.inr ⟨rfl, ?_, ?_, ?_, spl_join S i (by omega) a⟩)
        · show 1 ≤ (S.extract 0 i).size
          simp [ByteArray.size_extract]; omega
        · show (S.extract 0 i).size ≤ 155
          simp [ByteArray.size_extract]; omega
        · show (S.extract (i + 1) S.size).size ≤ 100
          simp [ByteArray.size_extract]; omega

set_option maxRecDepth 100000 in
set_option maxHeartbeats 16000000 in
theorem headSplits_walk (S : ByteArray) (ao : Option Addr) (cap n : Nat) (zs : List Int) (w : World) (hs : S.size ≤ maxLen) (hn : n = zs.length) (hz : RdI w w.heap.size ao zs) (hal : AllI zs) (hc : n ≤ cap) (hcm : cap ≤ maxLen) :
    Calls Try.prog 7 #[.string S, .slice ao n cap] w fun e w' => e = .returned (.bool true) ∧ Below w.heap.size w w' := by
  obtain ⟨L, hL⟩ : ∃ L, S.size = L := ⟨_, rfl⟩
  have hcm2 : n ≤ 9223372036854775807 := by unfold maxLen at hcm; omega
  by_cases h6 : 600 < L
  · have HA := Lib.hid (awake17 w)
    clear hz hal
    have h6i : (600 : Int) < (L : Int) := by omega
    go_enter Try.func7, Try.ntmps7
    go_wp2_with fail
    with_reducible refine HA.out.mono ?_
    rintro e w1 ⟨rfl, hk1⟩
    have HK1 := Lib.hid hk1
    clear hk1
    go_wp2
    go_ret
    exact ⟨rfl, HK1.out.belowNo (Below.refl _ _)⟩
  have h6i : ¬ (600 : Int) < (L : Int) := by omega
  have HZ := Lib.hid hz; have HN := Lib.hid hn
  clear hz hn hal hs
  go_enter Try.func7, Try.ntmps7
  go_wp2
  go_loopw [5, 6] (fun v5 v6 wr => ∃ (i : Nat) (T : ByteArray), v5 = .string T ∧ v6 = .int .i64 (i : Int) ∧ i ≤ n ∧ i ≤ 10 ∧ T.size ≤ 130 * i ∧ Hid (w = wr)) (fun _ v6 _ => n - (intOf v6).toNat)
  case atStart => exact ⟨0, ⟨#[]⟩, rfl, rfl, by omega, by omega, by decide, Lib.hid rfl⟩
  case round =>
    obtain ⟨i, T, rfl, rfl, hi, hi10, hT, HW⟩ := hrel
    by_cases hlt : (i : Int) < (n : Int)
    · by_cases h10 : (i : Int) < 10
      · have hw := HW.out
        subst hw
        obtain ⟨g, off, rfl, hg, hcell⟩ := HZ.out i (by have := HN.out; omega)
        obtain ⟨z, hz⟩ : ∃ z, z = zs.getD i 0 := ⟨_, rfl⟩
        rw [← hz] at hcell
        have hmk := mask255 z
        obtain ⟨K, hK⟩ : ∃ K : Nat, z % 256 % 130 = (K : Int) := ⟨(z % 256 % 130).toNat, by omega⟩
        have hK129 : K ≤ 129 := by omega
        have hK3 : (z % 256).tmod 130 = (K : Int) := by rw [Int.tmod_eq_emod_of_nonneg (by omega)]; exact hK
        obtain ⟨B0, hB0⟩ : ∃ B0, B0 = 130 * i := ⟨_, rfl⟩
        rw [← hB0] at hT
        have HB0 := Lib.hid hB0
        clear hz hB0
        go_wp2
        go_loopw [5, 7] (fun v5 v7 wr => ∃ (k : Nat) (U : ByteArray), v5 = .string U ∧ v7 = .int .i64 (k : Int) ∧ k ≤ K ∧ U.size ≤ B0 + k ∧ Hid (w = wr)) (fun _ v7 _ => K - (intOf v7).toNat)
        case atStart => exact ⟨0, T, rfl, rfl, by omega, by omega, Lib.hid rfl⟩
        case round =>
          obtain ⟨k, U, rfl, rfl, hk, hU, HW2⟩ := hrel
          have hw2 := HW2.out
          subst hw2
          have hB2 : B0 ≤ 1300 := by have := HB0.out; omega
          by_cases hlk : (k : Int) < (K : Int)
          · have had := fun W => run_string_add_sum (P := Try.prog) W U ⟨#[120]⟩ (by show U.size + 1 ≤ _; omega)
            have HU := Lib.hid hU
            go_wp2
            go_roundw
            case rel => exact ⟨k + 1, _, rfl, by go_num, by omega, (by rw [ba_size_app]; show U.size + 1 ≤ _; have := HU.out; omega), (by trivial)⟩
            case measure => simp [intOf]; omega
          · have had := fun W => run_string_add_sum (P := Try.prog) W U ⟨#[47]⟩ (by show U.size + 1 ≤ _; omega)
            have HU := Lib.hid hU
            go_wp2
            go_roundw
            case rel => exact ⟨i + 1, _, rfl, by go_num, by omega, by omega, (by rw [ba_size_app]; show U.size + 1 ≤ _; have := HU.out; have := HB0.out; omega), (by trivial)⟩
            case measure => simp [intOf]; omega
      · have hw := HW.out
        subst hw
        have hT2 : T.size ≤ 1300 := by omega
        have hS2 : S.size ≤ 600 := by omega
        have hTSz : Hid ((T ++ S).size ≤ 1900) := Lib.hid (by rw [ba_size_app]; omega)
        have had := fun W => run_string_add_sum (P := Try.prog) W T S (by omega)
        clear hT HZ HN
        go_wp2
        go_loopw [8] (fun v8 wr => ∃ j : Nat, v8 = .int .i64 (j : Int) ∧ j ≤ 3 ∧ Hid (Kept NoB w wr)) (fun v8 _ => 3 - (intOf v8).toNat)
        case atStart => exact ⟨0, rfl, by omega, Lib.hid (Kept.refl _ _)⟩
        case round =>
          obtain ⟨j, rfl, hj, HKr⟩ := hrel
          by_cases hlj : (j : Int) < 3
          · have hrow : ∃ X : ByteArray, (#[Value.string S, .string T, .string (T ++ S)] : Array Value)[j]? = some (.string X) ∧ X.size ≤ 1900 := by
              rcases (by omega : j = 0 ∨ j = 1 ∨ j = 2) with rfl | rfl | rfl
              · exact ⟨S, rfl, by omega⟩
              · exact ⟨T, rfl, by omega⟩
              · exact ⟨T ++ S, rfl, hTSz.out⟩
            obtain ⟨X, hget, hXs⟩ := hrow
            have hcell : (wr.alloc (.cells #[Value.string S, .string T, .string (T ++ S)] 9)).cell? ⟨wr.heap.size, j, none⟩ = some (.string X) := by
              rw [cell_new j rfl]; exact hget
            have HKn := Lib.hid (HKr.out.alloc (.cells #[Value.string S, .string T, .string (T ++ S)] 9))
            have HS1 := Lib.hid (fun W => split_any X W (by omega))
            have HS2 := Lib.hid (fun W => rsplit_any X W (by omega))
            have hsp := spl_spec X
            obtain ⟨q, hq⟩ : ∃ q, q = splB X := ⟨_, rfl⟩
            have HQ : Hid (q = splB X) := Lib.hid hq
            rw [← hq] at hsp
            obtain ⟨A, B, ok⟩ := q
            have HQ1 : Hid (∀ W e w', SplR X W e w' → e = .returned (.tuple #[.string A, .string B, .bool ok]) ∧ Kept NoB W w') := Lib.hid (fun W e w' h => by rw [SplR, ← HQ.out] at h; exact h)
            have hAA : (!A.toList == A.toList) = false := by simp
            have hBB : (!B.toList == B.toList) = false := by simp
            have hBx : (ok != ok) = false := by simp
            have hXX : (!X.toList == X.toList) = false := by simp
            clear hget hq
            go_wp2_with fail
            with_reducible refine (HS1.out _).mono ?_
            intro e w5 h5
            obtain ⟨rfl, hk5⟩ := HQ1.out _ _ _ h5
            have HK5 := Lib.hid (HKn.out.trans hk5)
            clear h5 hk5 hcell
            go_wp2_with fail
            with_reducible refine (HS2.out _).mono ?_
            intro e w6 h6
            obtain ⟨rfl, hk6⟩ := HQ1.out _ _ _ h6
            have HK6 := Lib.hid (HK5.out.trans hk6)
            clear h6 hk6
            rcases hsp with ⟨h1, h2, h3⟩ | ⟨h1, h2, h3, h4⟩ | ⟨h1, h2, h3, h4, h5⟩
            · have h1 : ok = false := h1
              have h2 : A = ⟨#[]⟩ := h2
              have h3 : B = ⟨#[]⟩ := h3
              subst h1 h2 h3
              clear HQ HQ1
              go_wp2
              go_roundw
              case rel => exact ⟨j + 1, by go_num, by omega, HK6⟩
              case measure => simp [intOf]; omega
            · have h1 : ok = true := h1
              have h2 : A = ⟨#[]⟩ := h2
              have h3 : B = X := h3
              subst h1 h2 h3
              have hb1 : ¬ (100 : Int) < (B.size : Int) := by omega
              clear HQ HQ1
              go_wp2
              go_roundw
              case rel => exact ⟨j + 1, by go_num, by omega, HK6⟩
              case measure => simp [intOf]; omega
            · have h1 : ok = true := h1
              have h2 : 1 ≤ A.size := h2
              have h3 : A.size ≤ 155 := h3
              have h4 : B.size ≤ 100 := h4
              have h5 : A ++ ⟨#[47]⟩ ++ B = X := h5
              subst h1
              have hb1 : ¬ (100 : Int) < (B.size : Int) := by omega
              have hb2 : ¬ (155 : Int) < (A.size : Int) := by omega
              obtain ⟨A1, hA1⟩ : ∃ A1, A1 = A ++ ⟨#[47]⟩ := ⟨_, rfl⟩
              have hA1z : A1.size = A.size + 1 := by rw [hA1, ba_size_app]; rfl
              have had1 : ∀ W, (binOp .add 9 (.string A) (.string ⟨#[47]⟩)).run Try.prog W = .ok (.string A1) W := fun W => by rw [hA1]; exact run_string_add_sum (P := Try.prog) W A ⟨#[47]⟩ (by show A.size + 1 ≤ _; omega)
              have had2 : ∀ W, (binOp .add 9 (.string A1) (.string B)).run Try.prog W = .ok (.string X) W := fun W => by rw [← h5, ← hA1]; exact run_string_add_sum (P := Try.prog) W A1 B (by omega)
              have he1 : A.toList.isEmpty = false := by rw [size_isEmpty, decide_eq_false (by omega)]
              have he2 : (A.toList == []) = false := by rw [← he1]; cases A.toList <;> rfl
              have he3 : (!A.toList == []) = true := by rw [he2]; rfl
              clear HQ HQ1 h5 hA1 hA1z
              go_wp2
              go_roundw
              case rel => exact ⟨j + 1, by go_num, by omega, HK6⟩
              case measure => simp [intOf]; omega
          · have HA := Lib.hid (awake17 wr)
            go_wp2_with fail
            with_reducible refine HA.out.mono ?_
            rintro e w7 ⟨rfl, hk7⟩
            have HK7 := Lib.hid (HKr.out.trans hk7)
            clear hk7
            go_wp2
            go_ret
            exact ⟨rfl, HK7.out.belowNo (Below.refl _ _)⟩
    · have hw := HW.out
      subst hw
      have hT2 : T.size ≤ 1300 := by omega
      have hS2 : S.size ≤ 600 := by omega
      have hTSz : Hid ((T ++ S).size ≤ 1900) := Lib.hid (by rw [ba_size_app]; omega)
      have had := fun W => run_string_add_sum (P := Try.prog) W T S (by omega)
      clear hT HZ HN
      go_wp2
      go_loopw [8] (fun v8 wr => ∃ j : Nat, v8 = .int .i64 (j : Int) ∧ j ≤ 3 ∧ Hid (Kept NoB w wr)) (fun v8 _ => 3 - (intOf v8).toNat)
      case atStart => exact ⟨0, rfl, by omega, Lib.hid (Kept.refl _ _)⟩
      case round =>
        obtain ⟨j, rfl, hj, HKr⟩ := hrel
        by_cases hlj : (j : Int) < 3
        · have hrow : ∃ X : ByteArray, (#[Value.string S, .string T, .string (T ++ S)] : Array Value)[j]? = some (.string X) ∧ X.size ≤ 1900 := by
            rcases (by omega : j = 0 ∨ j = 1 ∨ j = 2) with rfl | rfl | rfl
            · exact ⟨S, rfl, by omega⟩
            · exact ⟨T, rfl, by omega⟩
            · exact ⟨T ++ S, rfl, hTSz.out⟩
          obtain ⟨X, hget, hXs⟩ := hrow
          have hcell : (wr.alloc (.cells #[Value.string S, .string T, .string (T ++ S)] 9)).cell? ⟨wr.heap.size, j, none⟩ = some (.string X) := by
            rw [cell_new j rfl]; exact hget
          have HKn := Lib.hid (HKr.out.alloc (.cells #[Value.string S, .string T, .string (T ++ S)] 9))
          have HS1 := Lib.hid (fun W => split_any X W (by omega))
          have HS2 := Lib.hid (fun W => rsplit_any X W (by omega))
          have hsp := spl_spec X
          obtain ⟨q, hq⟩ : ∃ q, q = splB X := ⟨_, rfl⟩
          have HQ : Hid (q = splB X) := Lib.hid hq
          rw [← hq] at hsp
          obtain ⟨A, B, ok⟩ := q
          have HQ1 : Hid (∀ W e w', SplR X W e w' → e = .returned (.tuple #[.string A, .string B, .bool ok]) ∧ Kept NoB W w') := Lib.hid (fun W e w' h => by rw [SplR, ← HQ.out] at h; exact h)
          have hAA : (!A.toList == A.toList) = false := by simp
          have hBB : (!B.toList == B.toList) = false := by simp
          have hBx : (ok != ok) = false := by simp
          have hXX : (!X.toList == X.toList) = false := by simp
          clear hget hq
          go_wp2_with fail
          with_reducible refine (HS1.out _).mono ?_
          intro e w5 h5
          obtain ⟨rfl, hk5⟩ := HQ1.out _ _ _ h5
          have HK5 := Lib.hid (HKn.out.trans hk5)
          clear h5 hk5 hcell
          go_wp2_with fail
          with_reducible refine (HS2.out _).mono ?_
          intro e w6 h6
          obtain ⟨rfl, hk6⟩ := HQ1.out _ _ _ h6
          have HK6 := Lib.hid (HK5.out.trans hk6)
          clear h6 hk6
          rcases hsp with ⟨h1, h2, h3⟩ | ⟨h1, h2, h3, h4⟩ | ⟨h1, h2, h3, h4, h5⟩
          · have h1 : ok = false := h1
            have h2 : A = ⟨#[]⟩ := h2
            have h3 : B = ⟨#[]⟩ := h3
            subst h1 h2 h3
            clear HQ HQ1
            go_wp2
            go_roundw
            case rel => exact ⟨j + 1, by go_num, by omega, HK6⟩
            case measure => simp [intOf]; omega
          · have h1 : ok = true := h1
            have h2 : A = ⟨#[]⟩ := h2
            have h3 : B = X := h3
            subst h1 h2 h3
            have hb1 : ¬ (100 : Int) < (B.size : Int) := by omega
            clear HQ HQ1
            go_wp2
            go_roundw
            case rel => exact ⟨j + 1, by go_num, by omega, HK6⟩
            case measure => simp [intOf]; omega
          · have h1 : ok = true := h1
            have h2 : 1 ≤ A.size := h2
            have h3 : A.size ≤ 155 := h3
            have h4 : B.size ≤ 100 := h4
            have h5 : A ++ ⟨#[47]⟩ ++ B = X := h5
            subst h1
            have hb1 : ¬ (100 : Int) < (B.size : Int) := by omega
            have hb2 : ¬ (155 : Int) < (A.size : Int) := by omega
            obtain ⟨A1, hA1⟩ : ∃ A1, A1 = A ++ ⟨#[47]⟩ := ⟨_, rfl⟩
            have hA1z : A1.size = A.size + 1 := by rw [hA1, ba_size_app]; rfl
            have had1 : ∀ W, (binOp .add 9 (.string A) (.string ⟨#[47]⟩)).run Try.prog W = .ok (.string A1) W := fun W => by rw [hA1]; exact run_string_add_sum (P := Try.prog) W A ⟨#[47]⟩ (by show A.size + 1 ≤ _; omega)
            have had2 : ∀ W, (binOp .add 9 (.string A1) (.string B)).run Try.prog W = .ok (.string X) W := fun W => by rw [← h5, ← hA1]; exact run_string_add_sum (P := Try.prog) W A1 B (by omega)
            have he1 : A.toList.isEmpty = false := by rw [size_isEmpty, decide_eq_false (by omega)]
            have he2 : (A.toList == []) = false := by rw [← he1]; cases A.toList <;> rfl
            have he3 : (!A.toList == []) = true := by rw [he2]; rfl
            clear HQ HQ1 h5 hA1 hA1z
            go_wp2
            go_roundw
            case rel => exact ⟨j + 1, by go_num, by omega, HK6⟩
            case measure => simp [intOf]; omega
        · have HA := Lib.hid (awake17 wr)
          go_wp2_with fail
          with_reducible refine HA.out.mono ?_
          rintro e w7 ⟨rfl, hk7⟩
          have HK7 := Lib.hid (HKr.out.trans hk7)
          clear hk7
          go_wp2
          go_ret
          exact ⟨rfl, HK7.out.belowNo (Below.refl _ _)⟩

theorem headSplits_law (v0 v1 : Value) (w : World) (r0 : Arg w 9 v0) (r1 : Arg w 48 v1) :
    Calls Try.prog 7 #[v0, v1] w fun e w' => e = .returned (.bool true) ∧ Below w.heap.size w w' := by
  obtain ⟨S, rfl, hS⟩ := r0.string Try.underlying9
  obtain ⟨ao, cap, zs, rfl, h1, h2, h3, h4, _⟩ := r1.ints
  exact headSplits_walk S ao cap zs.length zs w hS rfl h3 h4 h1 h2
end Go.Proofs.Ytnhfbpikfkncpaa
