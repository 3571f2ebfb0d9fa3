/-
  The document's side of maps: a line.
-/
import Derived.Test.YtbambcondcikbaaDoorRMapB
namespace Go.Proofs.YtbambcondcikbaaDoor
open Go.RowKit
set_option linter.unusedVariables false
set_option linter.unusedSimpArgs false

theorem strB_at (L : List UInt8) (i : Nat) (h : i < (strB L).size) : (((strB L)[i]'h).toNat : Int) = ((L.getD i 0).toNat : Int) := by
  have hl : i < L.length := by rw [strB_size] at h; exact h
  have e : (strB L)[i]'h = L[i] := rfl
  rw [e]
  simp [List.getD, hl]
/-- What line gives back: if there is no number, the first two may be any. -/
def LinR (b : List UInt8) (e : Ending) : Prop :=
  (lineR b = none ∧ ∃ x y : Int, e = .returned (.tuple #[.int .i64 x, .int .i64 y, .bool false])) ∨
    ∃ (x : Int) (k : Nat), lineR b = some (x, k) ∧ e = .returned (.tuple #[.int .i64 x, .int .i64 (k : Int), .bool true])
set_option maxHeartbeats 4000000 in
theorem rline_any (L : List UInt8) (w : World) (hl : L.length ≤ 1000000) : Calls Tryd.prog 40 #[.string (strB L)] w fun e w' => LinR L e ∧ w = w' := by
  obtain ⟨n, hn⟩ : ∃ n, n = L.length := ⟨_, rfl⟩
  have hsz : (strB L).size = n := by rw [strB_size, hn]
  have HAt := Lib.hid (strB_at L); have HN := Lib.hid hn
  have HEx := Lib.hid (fun i => strB_extract L 0 i)
  have HNo := Lib.hid (lineR_no L); have HYes := Lib.hid (lineR_at L)
  have HNum := Lib.hid (fun (i : Nat) (hi : i < 20) (W : World) => rNumber_any (strB (L.take i)) W (by rw [strB_size, List.length_take]; omega))
  rw [← hn] at hl
  obtain ⟨S, hS⟩ : ∃ S, S = strB L := ⟨_, rfl⟩
  rw [← hS] at hsz HAt HEx ⊢
  clear hn hS
  go_enter Tryd.func40, Tryd.ntmps40
  go_wp2
  go_loopw [5] (fun v5 wr => ∃ i : Nat, v5 = .int .i64 (i : Int) ∧ i ≤ n ∧ i ≤ 20 ∧ Hid (∀ j, j < i → L.getD j 0 ≠ 10) ∧ Hid (w = wr)) (fun v5 _ => n - (intOf v5).toNat)
  case atStart => exact ⟨0, rfl, by omega, by omega, Lib.hid (fun j hj => by omega), Lib.hid rfl⟩
  case round =>
    obtain ⟨i, rfl, hi, hi20, HP, HW⟩ := hrel
    by_cases hlt : (i : Int) < (n : Int)
    · by_cases h20 : (i : Int) < 20
      · have hin : i < n := by omega
        have his : i < S.size := by omega
        have hz := HAt.out i his
        obtain ⟨z, hzz⟩ : ∃ z : Int, z = ((L.getD i 0).toNat : Int) := ⟨_, rfl⟩
        rw [← hzz] at hz
        have HZ := Lib.hid hzz
        clear hzz
        by_cases h10 : z = 10
        · subst h10
          have h10' : Hid (L.getD i 0 = 10) := Lib.hid (by
            have := HZ.out
            apply UInt8.toNat_inj.1
            show _ = 10
            omega)
          have hw := HW.out
          subst hw
          have hY := HYes.out i (by have := HN.out; omega) (by omega) h10'.out HP.out
          have hx := HEx.out i
          have hNm := HNum.out i (by omega)
          rw [strB_data] at hNm
          obtain ⟨v, hv⟩ : ∃ v, v = (numL (L.take i)).1 := ⟨_, rfl⟩
          obtain ⟨ok, hok⟩ : ∃ ok, ok = (numL (L.take i)).2 := ⟨_, rfl⟩
          have hvb := numL_64 (L.take i)
          rw [← hv] at hvb hY hNm
          rw [← hok] at hY hNm
          have HY := Lib.hid hY; have HNm := Lib.hid hNm
          have hx2 : S.extract 0 i = strB (L.take i) := by rw [hx, List.drop_zero, Nat.sub_zero]
          obtain ⟨b1, b2⟩ := hvb
          have hil : i ≤ n := by omega
          clear hY hNm hx hv hok
          go_wp2_with fail
          with_reducible refine (HNm.out _).mono ?_
          rintro e w2 ⟨rfl, rfl⟩
          cases ok with
          | false =>
            have HF : Hid (lineR L = none) := Lib.hid (by rw [HY.out]; rfl)
            go_wp2
            go_ret3
            exact ⟨.inl ⟨HF.out, _, _, rfl⟩, rfl⟩
          | true =>
            by_cases hv0 : 0 ≤ v
            · have HF : Hid (lineR L = some (v, i + 1)) := Lib.hid (by rw [HY.out, decide_eq_true hv0]; rfl)
              go_wp2
              go_ret3
              exact ⟨.inr ⟨v, i + 1, HF.out, by first | rfl | simp⟩, rfl⟩
            · have HF : Hid (lineR L = none) := Lib.hid (by rw [HY.out, decide_eq_false hv0]; rfl)
              have hd : decide (0 ≤ v) = false := decide_eq_false hv0
              go_wp2
              go_ret3
              exact ⟨.inl ⟨HF.out, _, _, rfl⟩, rfl⟩
        · have h0b : (z == 10) = false := by simp [h10]
          have HPn : Hid (∀ j, j < i + 1 → L.getD j 0 ≠ 10) := Lib.hid (fun j hj => by
            by_cases e : j = i
            · subst e
              intro h
              apply h10
              rw [HZ.out, h]
              rfl
            · exact HP.out j (by omega))
          clear h10
          go_wp2
          go_roundw
          case rel => exact ⟨i + 1, by go_num, by omega, by omega, HPn, HW⟩
          case measure => simp [intOf]; omega
      · have HF : Hid (lineR L = none) := Lib.hid (HNo.out (fun j _ hj => HP.out j (by omega)))
        go_wp2
        go_ret3
        exact ⟨.inl ⟨HF.out, 0, 0, rfl⟩, HW.out⟩
    · have HF : Hid (lineR L = none) := Lib.hid (HNo.out (fun j hj _ => HP.out j (by have := HN.out; omega)))
      go_wp2
      go_ret3
      exact ⟨.inl ⟨HF.out, 0, 0, rfl⟩, HW.out⟩
end Go.Proofs.YtbambcondcikbaaDoor
