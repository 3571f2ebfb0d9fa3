/-
  The document's Number, at a number's digits.
-/
import Derived.Test.YtbambcondcikbaaDoorRNumr
namespace Go.Proofs.YtbambcondcikbaaDoor
open Go.RowKit Go.Lib
set_option linter.unusedVariables false
set_option linter.unusedSimpArgs false

theorem parse_step {x U : Nat} {c : UInt8} {r : List UInt8} (h : parseUint10 x (c :: r) = .ok U) :
    48 ≤ c.toNat ∧ c.toNat ≤ 57 ∧ x * 10 + (c.toNat - 48) < 18446744073709551616 ∧ parseUint10 (x * 10 + (c.toNat - 48)) r = .ok U := by
  simp only [parseUint10] at h
  split at h
  · rename_i hd
    split at h
    · cases h
    · split at h
      · cases h
      · exact ⟨hd.1, hd.2, by omega, h⟩
  · cases h
theorem drop_at (d : ByteArray) (j : Nat) (h : j < d.size) : d.data.toList.drop j = d[j] :: d.data.toList.drop (j + 1) := by
  have hl : j < d.data.toList.length := by simpa using h
  rw [List.drop_eq_getElem_cons hl]
  congr 1

set_option maxRecDepth 20000 in
set_option maxHeartbeats 4000000 in
theorem rNumber_yes (v : Int) (h0 : -9223372036854775808 ≤ v) (h1 : v ≤ 9223372036854775807) (w : World) :
    Calls Tryd.prog 12 #[.string ⟨(itoa v).toArray⟩] w fun e w' => e = .returned (.tuple #[.int .i64 v, .bool true]) ∧ w = w' := by
  have HD := Lib.hid (fun w => rDigits_any v w h0 h1)
  rcases itoa_parts v h0 h1 with ⟨hneg, U, rfl, hU1, hU2, hit⟩ | ⟨hneg, U, rfl, hU2, hit⟩
  · obtain ⟨s, hs⟩ : ∃ s : ByteArray, s = ⟨(itoa (-(U : Int))).toArray⟩ := ⟨_, rfl⟩
    rw [← hs] at HD ⊢
    have hsl : s.data.toList = 45 :: decDigits U := by rw [hs, hit]; rfl
    obtain ⟨N, hN⟩ : ∃ N, s.size = N := ⟨_, rfl⟩
    have hNl : N = (decDigits U).length + 1 := by
      have := congrArg List.length hsl
      rw [← hN]
      simpa using this
    have hlt0 : 0 < s.size := by omega
    have hy : (((s[0]'hlt0).toNat : Nat) : Int) = 45 := by
      have h := drop_at s 0 hlt0
      rw [List.drop_zero, hsl] at h
      injection h with h _
      rw [← h]; rfl
    have hes : s.toList.isEmpty = false := by rw [isEmpty_size]; exact decide_eq_false (by omega)
    have hext : (s.extract 1 s.size).size = N - 1 := by rw [ByteArray.size_extract]; omega
    have hne := tl_ne (s.extract 1 s.size) s (by omega)
    have hdd : (s.extract 1 s.size).data.toList = decDigits U := by
      rw [Lib.extract_data, hsl, List.drop_succ_cons, List.drop_zero, List.take_of_length_le (by omega)]
    rw [hN] at hext hne hdd
    have hw1 : IntKind.u64.wrap (-(U : Int)) = 18446744073709551616 - (U : Int) := by rw [IntKind.wrap_u64]; omega
    have hw2 : IntKind.i64.wrap (18446744073709551616 - (U : Int)) = -(U : Int) := by rw [IntKind.wrap_i64]; omega
    clear hs hit hsl hNl
    go_enter Tryd.func12, Tryd.ntmps12
    go_upto_region 4 with fail
    generalize s.extract 1 N = d at hext hne hdd ⊢
    clear hy
    have hne0 : decDigits U ≠ [] := decDigits_ne U
    obtain ⟨M, hM⟩ : ∃ M, d.size = M := ⟨_, rfl⟩
    have hMl : M = (decDigits U).length := by rw [← hM, ← hdd]; rfl
    have hM0 : M ≠ 0 := by rw [hMl]; intro h; exact hne0 (List.eq_nil_of_length_eq_zero h)
    have hM19 : M ≤ 19 := by rw [hMl]; exact decDigits_len 19 U (by decide) (by omega)
    have hde : d.toList.isEmpty = false := by rw [isEmpty_size, hM]; exact decide_eq_false hM0
    have hpar : parseUint10 0 (d.data.toList.drop 0) = .ok U := by
      rw [List.drop_zero, hdd]
      have := parse_digits U U [] (Nat.le_refl _) (by omega)
      rw [List.append_nil] at this
      rw [this]; rfl
    have HPar := Lib.hid hpar
    clear hpar hdd hMl hne0
    go_upto_block 0 with fail
    go_cut [5, 6] from 25 to 48 (fun v5 v6 wx => w = wx ∧ v5 = .int .u64 (U : Int))
    case first =>
      go_wp2_with fail
      go_loopw [5, 6] (fun v5 v6 wr => w = wr ∧ ∃ (x : Nat) (j : Nat), v5 = .int .u64 (x : Int) ∧ v6 = .int .i64 (j : Int) ∧ j ≤ M ∧ Hid (parseUint10 x (d.data.toList.drop j) = .ok U)) (fun _ v6 _ => M - (RowKit.intOf v6).toNat)
      case atStart => exact ⟨rfl, 0, 0, rfl, rfl, by omega, HPar.out⟩
      case round =>
        obtain ⟨rfl, x, j, rfl, rfl, hj, HX⟩ := hrel
        by_cases hlt : (j : Int) < M
        · have hjs : j < d.size := by omega
          have hx := HX.out
          rw [drop_at d j hjs] at hx
          obtain ⟨h1, h2, h3, h4⟩ := parse_step hx
          obtain ⟨c, hc⟩ : ∃ c : Nat, (d[j]'hjs).toNat = c := ⟨_, rfl⟩
          rw [hc] at h1 h2 h3 h4
          obtain ⟨x2, hx2⟩ : ∃ x2, x2 = x * 10 + (c - 48) := ⟨_, rfl⟩
          rw [← hx2] at h3 h4
          have HX2 := Lib.hid h4
          have g1 : ¬ (c : Int) < 48 := by omega
          have g2 : ¬ (57 : Int) < (c : Int) := by omega
          have hw1 : IntKind.u64.wrap (10 * (x : Int)) = 10 * (x : Int) := by rw [IntKind.wrap_u64]; omega
          have hsum : 10 * (x : Int) + ((c : Int) - 48) = (x2 : Int) := by omega
          have hw2 : IntKind.u64.wrap (x2 : Int) = (x2 : Int) := by rw [IntKind.wrap_u64]; omega
          have hw3 : IntKind.u8.wrap ((c : Int) - 48) = (c : Int) - 48 := by rw [IntKind.wrap_u8]; omega
          have hw4 : IntKind.u64.wrap ((c : Int) - 48) = (c : Int) - 48 := by rw [IntKind.wrap_u64]; omega
          clear hx h4 hx2
          go_wp2
          go_roundw
          case rel => exact ⟨trivial, x2, j + 1, rfl, by go_num, by omega, HX2.out⟩
          case measure => simp [RowKit.intOf]; omega
        · have hjM : j = M := by omega
          have hx := HX.out
          rw [List.drop_of_length_le (by rw [hjM, ← hM]; exact Nat.le_refl _)] at hx
          have hxU : x = U := by simpa [parseUint10] using hx
          subst hxU
          clear hx
          go_wp2
          go_meet
          exact ⟨rfl, rfl⟩
    case rest =>
    obtain ⟨rfl, rfl⟩ := hcut
    have hgt : ¬ (9223372036854775808 : Int) < (U : Int) := by omega
    have hself := tl_eq s
    go_wp2_with fail
    refine (HD.out _).mono ?_
    rintro e w1 ⟨rfl, rfl⟩
    go_wp2
    go_ret2
    exact ⟨rfl, rfl⟩
  · obtain ⟨s, hs⟩ : ∃ s : ByteArray, s = ⟨(itoa (U : Int)).toArray⟩ := ⟨_, rfl⟩
    rw [← hs] at HD ⊢
    have hdd : s.data.toList = decDigits U := by rw [hs, hit]; rfl
    obtain ⟨N, hN⟩ : ∃ N, s.size = N := ⟨_, rfl⟩
    have hNl : N = (decDigits U).length := by rw [← hN, ← hdd]; rfl
    have hN0 : N ≠ 0 := by rw [hNl]; intro h; exact decDigits_ne U (List.eq_nil_of_length_eq_zero h)
    have hlt0 : 0 < s.size := by omega
    obtain ⟨y, hy⟩ : ∃ y : Int, (((s[0]'hlt0).toNat : Nat) : Int) = y := ⟨_, rfl⟩
    have hy2 : (y == 45) = false := by
      have h := drop_at s 0 hlt0
      rw [List.drop_zero, hdd] at h
      have := decDigits_all U U (Nat.le_refl _) (s[0]'hlt0) (by rw [h]; exact List.mem_cons_self)
      simp
      omega
    have hes : s.toList.isEmpty = false := by rw [isEmpty_size]; exact decide_eq_false (by omega)
    have hwi : IntKind.i64.wrap (U : Int) = (U : Int) := by rw [IntKind.wrap_i64]; omega
    clear hs hit hNl
    go_enter Tryd.func12, Tryd.ntmps12
    go_upto_region 4 with fail
    clear hy hy2
    have hne0 : decDigits U ≠ [] := decDigits_ne U
    obtain ⟨M, hM⟩ : ∃ M, s.size = M := ⟨_, rfl⟩
    have hMl : M = (decDigits U).length := by rw [← hM, ← hdd]; rfl
    have hM0 : M ≠ 0 := by rw [hMl]; intro h; exact hne0 (List.eq_nil_of_length_eq_zero h)
    have hM19 : M ≤ 19 := by rw [hMl]; exact decDigits_len 19 U (by decide) (by omega)
    have hde : s.toList.isEmpty = false := by rw [isEmpty_size, hM]; exact decide_eq_false hM0
    have hpar : parseUint10 0 (s.data.toList.drop 0) = .ok U := by
      rw [List.drop_zero, hdd]
      have := parse_digits U U [] (Nat.le_refl _) (by omega)
      rw [List.append_nil] at this
      rw [this]; rfl
    have HPar := Lib.hid hpar
    clear hpar hdd hMl hne0
    go_upto_block 0 with fail
    go_cut [5, 6] from 25 to 48 (fun v5 v6 wx => w = wx ∧ v5 = .int .u64 (U : Int))
    case first =>
      go_wp2_with fail
      go_loopw [5, 6] (fun v5 v6 wr => w = wr ∧ ∃ (x : Nat) (j : Nat), v5 = .int .u64 (x : Int) ∧ v6 = .int .i64 (j : Int) ∧ j ≤ M ∧ Hid (parseUint10 x (s.data.toList.drop j) = .ok U)) (fun _ v6 _ => M - (RowKit.intOf v6).toNat)
      case atStart => exact ⟨rfl, 0, 0, rfl, rfl, by omega, HPar.out⟩
      case round =>
        obtain ⟨rfl, x, j, rfl, rfl, hj, HX⟩ := hrel
        by_cases hlt : (j : Int) < M
        · have hjs : j < s.size := by omega
          have hx := HX.out
          rw [drop_at s j hjs] at hx
          obtain ⟨h1, h2, h3, h4⟩ := parse_step hx
          obtain ⟨c, hc⟩ : ∃ c : Nat, (s[j]'hjs).toNat = c := ⟨_, rfl⟩
          rw [hc] at h1 h2 h3 h4
          obtain ⟨x2, hx2⟩ : ∃ x2, x2 = x * 10 + (c - 48) := ⟨_, rfl⟩
          rw [← hx2] at h3 h4
          have HX2 := Lib.hid h4
          have g1 : ¬ (c : Int) < 48 := by omega
          have g2 : ¬ (57 : Int) < (c : Int) := by omega
          have hw1 : IntKind.u64.wrap (10 * (x : Int)) = 10 * (x : Int) := by rw [IntKind.wrap_u64]; omega
          have hsum : 10 * (x : Int) + ((c : Int) - 48) = (x2 : Int) := by omega
          have hw2 : IntKind.u64.wrap (x2 : Int) = (x2 : Int) := by rw [IntKind.wrap_u64]; omega
          have hw3 : IntKind.u8.wrap ((c : Int) - 48) = (c : Int) - 48 := by rw [IntKind.wrap_u8]; omega
          have hw4 : IntKind.u64.wrap ((c : Int) - 48) = (c : Int) - 48 := by rw [IntKind.wrap_u64]; omega
          clear hx h4 hx2
          go_wp2
          go_roundw
          case rel => exact ⟨trivial, x2, j + 1, rfl, by go_num, by omega, HX2.out⟩
          case measure => simp [RowKit.intOf]; omega
        · have hjM : j = M := by omega
          have hx := HX.out
          rw [List.drop_of_length_le (by rw [hjM, ← hM]; exact Nat.le_refl _)] at hx
          have hxU : x = U := by simpa [parseUint10] using hx
          subst hxU
          clear hx
          go_wp2
          go_meet
          exact ⟨rfl, rfl⟩
    case rest =>
    obtain ⟨rfl, rfl⟩ := hcut
    have hgt : ¬ (9223372036854775808 : Int) < (U : Int) := by omega
    have hgt2 : ¬ (9223372036854775807 : Int) < (U : Int) := by omega
    have hself := tl_eq s
    go_wp2_with fail
    refine (HD.out _).mono ?_
    rintro e w1 ⟨rfl, rfl⟩
    go_wp2
    go_ret2
    exact ⟨rfl, rfl⟩
theorem rNumber_any (s : ByteArray) (w : World) (hs : s.size ≤ 1000) :
    Calls Tryd.prog 12 #[.string s] w fun e w' => e = .returned (.tuple #[.int .i64 (numL s.data.toList).1, .bool (numL s.data.toList).2]) ∧ w = w' := by
  by_cases h : ∃ v, -9223372036854775808 ≤ v ∧ v ≤ 9223372036854775807 ∧ itoa v = s.data.toList
  · obtain ⟨v, h0, h1, h2⟩ := h
    have hse : s = ⟨(itoa v).toArray⟩ := by rw [h2]
    rw [← h2, numL_yes v h0 h1, hse]
    exact rNumber_yes v h0 h1 w
  · have hno : ∀ v, -9223372036854775808 ≤ v → v ≤ 9223372036854775807 → itoa v ≠ s.data.toList := fun v h0 h1 h2 => h ⟨v, h0, h1, h2⟩
    rw [numL_no _ hno]
    exact rNumber_no s w hs hno
end Go.Proofs.YtbambcondcikbaaDoor
