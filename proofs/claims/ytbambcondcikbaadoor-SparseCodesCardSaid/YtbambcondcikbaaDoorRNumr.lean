/-
  The document's Number: the number whose digits a text is.
-/
import Derived.Test.YtbambcondcikbaaDoorDigA
import Derived.Deep.CutBlock
namespace Go.Proofs.YtbambcondcikbaaDoor
open Go.RowKit Go.Lib
set_option linter.unusedVariables false
set_option linter.unusedSimpArgs false

theorem isEmpty_size (s : ByteArray) : s.toList.isEmpty = decide (s.size = 0) := by
  have e : s.toList.length = s.size := by rw [ByteArray.toList_eq]; rfl
  by_cases h : s.size = 0
  · rw [decide_eq_true h, List.isEmpty_iff]
    exact List.eq_nil_of_length_eq_zero (e.trans h)
  · rw [decide_eq_false h]
    cases hl : s.toList with
    | nil => rw [hl] at e; exact absurd e.symm h
    | cons _ _ => rfl
theorem tl_ne (a b : ByteArray) (h : a.size ≠ b.size) : (a.toList == b.toList) = false := by
  apply beq_eq_false_iff_ne.2
  intro e
  rw [ByteArray.toList_eq, ByteArray.toList_eq] at e
  exact h (congrArg List.length e)
theorem tl_eq (a : ByteArray) : (a.toList == a.toList) = true := by simp

set_option maxRecDepth 20000 in
set_option maxHeartbeats 4000000 in
theorem rNumber_no (s : ByteArray) (w : World) (hs : s.size ≤ 1000) (hno : ∀ v, -9223372036854775808 ≤ v → v ≤ 9223372036854775807 → itoa v ≠ s.data.toList) :
    Calls Tryd.prog 12 #[.string s] w fun e w' => e = .returned (.tuple #[.int .i64 0, .bool false]) ∧ w = w' := by
  have HNo := Lib.hid hno
  clear hno
  obtain ⟨N, hN⟩ : ∃ N, s.size = N := ⟨_, rfl⟩
  have hes := isEmpty_size s
  have hall : ∀ d : ByteArray, Hid (d.toList.isEmpty = decide (d.size = 0)) := fun d => isEmpty_size d
  have HAl := Lib.hid hall
  clear hall
  by_cases h0 : N = 0
  · rw [decide_eq_true (by omega)] at hes
    go_enter Tryd.func12, Tryd.ntmps12
    go_wp2
    go_ret2
    exact ⟨rfl, rfl⟩
  · rw [decide_eq_false (by omega)] at hes
    have hlt0 : 0 < s.size := by omega
    obtain ⟨y, hy⟩ : ∃ y : Int, (((s[0]'hlt0).toNat : Nat) : Int) = y := ⟨_, rfl⟩
    have hext : (s.extract 1 s.size).size = N - 1 := by rw [ByteArray.size_extract]; omega
    by_cases hm : y = 45
    · subst hm
      have hne := tl_ne (s.extract 1 s.size) s (by omega)
      rw [hN] at hext hne
      go_enter Tryd.func12, Tryd.ntmps12
      go_upto_region 4 with fail
      generalize s.extract 1 N = d at hext hne ⊢
      clear hy
      obtain ⟨M, hM⟩ : ∃ M, d.size = M := ⟨_, rfl⟩
      have hM1 : M ≤ 1000 := by omega
      have hde : d.toList.isEmpty = decide (M = 0) := by rw [← hM]; exact isEmpty_size _
      by_cases hM0 : M = 0
      · rw [decide_eq_true hM0] at hde
        subst hM0
        go_wp2
        go_ret2
        exact ⟨rfl, rfl⟩
      · rw [decide_eq_false hM0] at hde
        by_cases h19 : 19 < M
        · go_wp2
          go_ret2
          exact ⟨rfl, rfl⟩
        · go_upto_block 0 with fail
          go_cut [5, 6] from 25 to 48 (fun v5 v6 wx => w = wx ∧ ∃ x : Int, v5 = .int .u64 x)
          case first =>
            go_wp2_with fail
            go_loopw [5, 6] (fun v5 v6 wr => w = wr ∧ ∃ (x : Int) (j : Nat), v5 = .int .u64 x ∧ v6 = .int .i64 (j : Int) ∧ j ≤ M) (fun _ v6 _ => M - (RowKit.intOf v6).toNat)
            case atStart => exact ⟨rfl, 0, 0, rfl, rfl, by omega⟩
            case round =>
              obtain ⟨rfl, x, j, rfl, rfl, hj⟩ := hrel
              by_cases hlt : (j : Int) < M
              · have hjs : j < d.size := by omega
                obtain ⟨c, hc⟩ : ∃ c : Int, (((d[j]'hjs).toNat : Nat) : Int) = c := ⟨_, rfl⟩
                have hcr : 0 ≤ c ∧ c < 256 := by rw [← hc]; have := UInt8.toNat_lt (d[j]'hjs); omega
                have hcc : c < 48 ∨ (48 ≤ c ∧ 57 < c) ∨ (48 ≤ c ∧ ¬ 57 < c) := by omega
                rcases hcc with h1 | ⟨h1, h2⟩ | ⟨h1, h2⟩
                · go_wp2
                  go_ret2
                  exact ⟨rfl, rfl⟩
                · go_wp2
                  go_ret2
                  exact ⟨rfl, rfl⟩
                · go_wp2
                  go_roundw
                  case rel => exact ⟨trivial, _, j + 1, rfl, by go_num, by omega⟩
                  case measure => simp [RowKit.intOf]; omega
              · go_wp2
                go_meet
                exact ⟨rfl, x, rfl⟩
          case rest =>
          obtain ⟨rfl, x, rfl⟩ := hcut
          have hfinal : ∀ m : Int, -9223372036854775808 ≤ m → m ≤ 9223372036854775807 → Hid (Calls Tryd.prog 10 #[.int .i64 m] w fun e w' => ∃ t : ByteArray, e = .returned (.string t) ∧ (t.toList == s.toList) = false ∧ w = w') := fun m h0 h1 => by
            refine (rDigits_any m w h0 h1).mono ?_
            rintro e w' ⟨rfl, rfl⟩
            refine ⟨_, rfl, ?_, rfl⟩
            apply beq_eq_false_iff_ne.2
            intro e
            rw [ByteArray.toList_eq, ByteArray.toList_eq] at e
            exact HNo.out m h0 h1 e
          have HF := Lib.hid hfinal
          clear hfinal
          have hwr : ∀ z : Int, -9223372036854775808 ≤ IntKind.i64.wrap z ∧ IntKind.i64.wrap z ≤ 9223372036854775807 := fun z => by rw [IntKind.wrap_i64]; omega
          have HWr := Lib.hid hwr
          clear hwr
          obtain ⟨n1, hn1⟩ : ∃ n1, IntKind.i64.wrap x = n1 := ⟨_, rfl⟩
          obtain ⟨n2, hn2⟩ : ∃ n2, IntKind.i64.wrap (IntKind.u64.wrap (-x)) = n2 := ⟨_, rfl⟩
          have hb1 := HWr.out x
          have hb2 := HWr.out (IntKind.u64.wrap (-x))
          rw [hn1] at hb1
          rw [hn2] at hb2
          have hxx : 9223372036854775808 < x ∨ (¬ 9223372036854775808 < x ∧ 9223372036854775807 < x) ∨ (¬ 9223372036854775808 < x ∧ ¬ 9223372036854775807 < x) := by omega
          have HF1 := HF.out n1 hb1.1 hb1.2
          have HF2 := HF.out n2 hb2.1 hb2.2
          clear HF HWr hb1 hb2
          rcases hxx with g1 | ⟨g1, g2⟩ | ⟨g1, g2⟩
          · go_wp2
            go_ret2
            exact ⟨rfl, rfl⟩
          all_goals
            go_wp2_with fail
            refine HF2.out.mono ?_
            rintro e w1 ⟨t, rfl, ht, rfl⟩
            go_wp2
            go_ret2
            exact ⟨rfl, rfl⟩
    · have hm' : (y == 45) = false := by simp; exact hm
      clear hext hm
      go_enter Tryd.func12, Tryd.ntmps12
      go_upto_region 4 with fail
      clear hy hm'
      obtain ⟨M, hM⟩ : ∃ M, s.size = M := ⟨_, rfl⟩
      have hM1 : M ≤ 1000 := by omega
      have hde : s.toList.isEmpty = decide (M = 0) := by rw [← hM]; exact isEmpty_size _
      by_cases hM0 : M = 0
      · rw [decide_eq_true hM0] at hde
        exact absurd hM0 (by omega)
      · rw [decide_eq_false hM0] at hde
        by_cases h19 : 19 < M
        · go_wp2
          go_ret2
          exact ⟨rfl, rfl⟩
        · go_upto_block 0 with fail
          go_cut [5, 6] from 25 to 48 (fun v5 v6 wx => w = wx ∧ ∃ x : Int, v5 = .int .u64 x)
          case first =>
            go_wp2_with fail
            go_loopw [5, 6] (fun v5 v6 wr => w = wr ∧ ∃ (x : Int) (j : Nat), v5 = .int .u64 x ∧ v6 = .int .i64 (j : Int) ∧ j ≤ M) (fun _ v6 _ => M - (RowKit.intOf v6).toNat)
            case atStart => exact ⟨rfl, 0, 0, rfl, rfl, by omega⟩
            case round =>
              obtain ⟨rfl, x, j, rfl, rfl, hj⟩ := hrel
              by_cases hlt : (j : Int) < M
              · have hjs : j < s.size := by omega
                obtain ⟨c, hc⟩ : ∃ c : Int, (((s[j]'hjs).toNat : Nat) : Int) = c := ⟨_, rfl⟩
                have hcr : 0 ≤ c ∧ c < 256 := by rw [← hc]; have := UInt8.toNat_lt (s[j]'hjs); omega
                have hcc : c < 48 ∨ (48 ≤ c ∧ 57 < c) ∨ (48 ≤ c ∧ ¬ 57 < c) := by omega
                rcases hcc with h1 | ⟨h1, h2⟩ | ⟨h1, h2⟩
                · go_wp2
                  go_ret2
                  exact ⟨rfl, rfl⟩
                · go_wp2
                  go_ret2
                  exact ⟨rfl, rfl⟩
                · go_wp2
                  go_roundw
                  case rel => exact ⟨trivial, _, j + 1, rfl, by go_num, by omega⟩
                  case measure => simp [RowKit.intOf]; omega
              · go_wp2
                go_meet
                exact ⟨rfl, x, rfl⟩
          case rest =>
          obtain ⟨rfl, x, rfl⟩ := hcut
          have hfinal : ∀ m : Int, -9223372036854775808 ≤ m → m ≤ 9223372036854775807 → Hid (Calls Tryd.prog 10 #[.int .i64 m] w fun e w' => ∃ t : ByteArray, e = .returned (.string t) ∧ (t.toList == s.toList) = false ∧ w = w') := fun m h0 h1 => by
            refine (rDigits_any m w h0 h1).mono ?_
            rintro e w' ⟨rfl, rfl⟩
            refine ⟨_, rfl, ?_, rfl⟩
            apply beq_eq_false_iff_ne.2
            intro e
            rw [ByteArray.toList_eq, ByteArray.toList_eq] at e
            exact HNo.out m h0 h1 e
          have HF := Lib.hid hfinal
          clear hfinal
          have hwr : ∀ z : Int, -9223372036854775808 ≤ IntKind.i64.wrap z ∧ IntKind.i64.wrap z ≤ 9223372036854775807 := fun z => by rw [IntKind.wrap_i64]; omega
          have HWr := Lib.hid hwr
          clear hwr
          obtain ⟨n1, hn1⟩ : ∃ n1, IntKind.i64.wrap x = n1 := ⟨_, rfl⟩
          obtain ⟨n2, hn2⟩ : ∃ n2, IntKind.i64.wrap (IntKind.u64.wrap (-x)) = n2 := ⟨_, rfl⟩
          have hb1 := HWr.out x
          have hb2 := HWr.out (IntKind.u64.wrap (-x))
          rw [hn1] at hb1
          rw [hn2] at hb2
          have hxx : 9223372036854775808 < x ∨ (¬ 9223372036854775808 < x ∧ 9223372036854775807 < x) ∨ (¬ 9223372036854775808 < x ∧ ¬ 9223372036854775807 < x) := by omega
          have HF1 := HF.out n1 hb1.1 hb1.2
          have HF2 := HF.out n2 hb2.1 hb2.2
          clear HF HWr hb1 hb2
          rcases hxx with g1 | ⟨g1, g2⟩ | ⟨g1, g2⟩
          · go_wp2
            go_ret2
            exact ⟨rfl, rfl⟩
          · go_wp2
            go_ret2
            exact ⟨rfl, rfl⟩
          · go_wp2_with fail
            refine HF1.out.mono ?_
            rintro e w1 ⟨t, rfl, ht, rfl⟩
            go_wp2
            go_ret2
            exact ⟨rfl, rfl⟩
end Go.Proofs.YtbambcondcikbaaDoor
