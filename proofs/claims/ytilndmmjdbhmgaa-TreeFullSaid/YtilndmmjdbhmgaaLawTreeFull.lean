/-
  The law TreeFull.
-/
import Derived.Test.YtilndmmjdbhmgaaFlP
import Derived.Test.YtilndmmjdbhmgaaAwake13
import Derived.Test.YtilndmmjdbhmgaaFsX
import Derived.Test.YtilndmmjdbhmgaaRDig
import Derived.Test.YtilndmmjdbhmgaaMask
namespace Go.Proofs.Ytilndmmjdbhmgaa
open Go.RowKit Go.Lib
set_option linter.unusedVariables false
set_option linter.unusedSimpArgs false
set_option maxRecDepth 20000

theorem itoa_nm (u : Nat) : (⟨#[110]⟩ : ByteArray) ++ (⟨(itoa (u : Int)).toArray⟩ : ByteArray) = strB (nmD u) := by
  rw [itoa_nonneg]
  exact ByteArray.mk_append_mk [110] (decDigits u)
theorem mask16 (n : Int) : bits .and .i64 n 65535 = n % 65536 := i64_mask n 16 (by decide)
set_option maxHeartbeats 4000000 in
theorem treeFull_core (k : Int) (w : World) (hk : -9223372036854775808 ≤ k ∧ k ≤ 9223372036854775807) : Calls Try.prog 4 #[.int .i64 k] w fun e w' => e = .returned (.bool true) ∧ Kept NoB w w' := by
  have m16 := mask16
  have HNew := Lib.hid (fun W => new_any 0 W (by decide))
  have HAw := Lib.hid awake_any
  have HDg := Lib.hid (fun (u : Nat) (h : u ≤ 1000) (W : World) => rDigits_any (u : Int) W (by omega) (by omega))
  have HNm := Lib.hid itoa_nm
  have hsz : ∀ u : Nat, u ≤ 1000 → (⟨(itoa (u : Int)).toArray⟩ : ByteArray).size ≤ 6 := fun u hu => by
    rw [itoa_nonneg]
    exact decDigits_len 6 u (by decide) (by omega)
  have HSz := Lib.hid hsz
  clear hsz
  obtain ⟨K, hK⟩ : ∃ K : Nat, (K : Int) = k % 65536 % 999 + 2 := ⟨(k % 65536 % 999 + 2).toNat, by omega⟩
  have hK2 : 2 ≤ K ∧ K ≤ 1000 := by omega
  go_enter Try.func4, Try.ntmps4
  go_wp2_with fail
  refine (HNew.out w).mono ?_
  rintro e w1 ⟨f, rfl, hf1, hk1⟩
  have HT0 : Hid (∃ T, FsOwn w w1 f T ∧ Fl T 1) := Lib.hid ⟨_, FsOwn.made hf1 hk1, fl_new 0⟩
  clear hf1 hk1 HNew
  go_wp2_with fail
  go_loopw [4, 5, 6] (fun v4 v5 v6 wr => ∃ (m : Nat), v4 = .int .i64 ((m : Int) + 1) ∧ 1 ≤ m ∧ m ≤ 1000 ∧ Hid (∃ T, FsOwn w wr f T ∧ Fl T m)) (fun v4 _ _ _ => 1001 - (intOf v4).toNat)
  case atStart => exact ⟨1, rfl, by omega, by omega, HT0⟩
  case round =>
    obtain ⟨m, rfl, hm1, hm2, HR⟩ := hrel
    clear HT0
    by_cases hlt : m < 1000
    · obtain ⟨st, hst⟩ : ∃ st : ByteArray, st = ⟨(itoa ((m + 1 : Nat) : Int)).toArray⟩ := ⟨_, rfl⟩
      have hz := HSz.out (m + 1) (by omega)
      have HCat := Lib.hid (HNm.out (m + 1))
      have HD : Hid (∀ W, Calls Try.prog 15 #[.int .i64 ((m : Int) + 1)] W fun e w' => e = .returned (.string st) ∧ W = w') := Lib.hid (fun W => by
        have := HDg.out (m + 1) (by omega) W
        rw [hst]; push_cast at this; exact this)
      rw [← hst] at hz HCat
      clear hst
      have HMk : Hid (Calls Try.prog 14 #[.pointer (some ⟨f, 0, none⟩), .int .i64 1, .string (⟨#[110]⟩ ++ st), .agg #[.int .i64 7, .int .i64 0, .int .i64 0, .int .i64 0, .int .i64 0, .string { data := #[] }, .int .i64 0, .int .i64 0, .int .i64 0, .int .i64 0, .int .i64 0]] wr fun e w' =>
          e = .returned (.tuple #[.int .i64 ((m : Int) + 1), .int .i64 0]) ∧ Hid (∃ T, FsOwn w w' f T ∧ Fl T (m + 1))) := Lib.hid (by
        obtain ⟨T, h1, h2⟩ := HR.out
        obtain ⟨h3, h4⟩ := fl_make h2 hm1 hlt
        have := make_any h1.st 1 (by decide) (nmD (m + 1)) (by have := hz; rw [show (nmD (m + 1)).length = (strB (nmD (m + 1))).size from (strB_size _).symm, ← HCat.out, ByteArray.size_append]; show 1 + st.size < _; omega) fifoV (by decide) (by rw [h2.clock]; omega)
        rw [HCat.out]
        refine Calls.mono this ?_
        rintro e w' ⟨rfl, h5, h6⟩
        exact ⟨by rw [h3], Lib.hid ⟨_, h1.step h5 h6, h4⟩⟩)
      have hlt2 : (m : Int) + 1 ≤ 1000 := by omega
      go_wp2_with (first | (go_at_call 15; refine (HD.out _).mono ?_; rintro e w2 ⟨rfl, rfl⟩) | (go_at_call 14; refine HMk.out.mono ?_; rintro e w3 ⟨rfl, HR3⟩))
      go_roundw
      case rel => exact ⟨m + 1, by go_num, by omega, by omega, HR3⟩
      case measure => simp [intOf]; omega
    · have hm3 : m = 1000 := by omega
      subst hm3
      have HM1 : Hid (Calls Try.prog 14 #[.pointer (some ⟨f, 0, none⟩), .int .i64 1, .string { data := #[109, 111, 114, 101] }, .agg #[.int .i64 7, .int .i64 0, .int .i64 0, .int .i64 0, .int .i64 0, .string { data := #[] }, .int .i64 0, .int .i64 0, .int .i64 0, .int .i64 0, .int .i64 0]] wr fun e w' =>
          e = .returned (.tuple #[.int .i64 0, .int .i64 14]) ∧ Hid (∃ T, FsOwn w w' f T ∧ Fl T 1000)) := Lib.hid (by
        obtain ⟨T, h1, h2⟩ := HR.out
        have := make_any h1.st 1 (by decide) moreL (by decide) fifoV (by decide) (by rw [h2.clock]; decide)
        rw [fl_full h2] at this
        refine Calls.mono this ?_
        rintro e w' ⟨rfl, h5, h6⟩
        exact ⟨rfl, Lib.hid ⟨_, h1.step h5 h6, h2⟩⟩)
      obtain ⟨st, hst⟩ : ∃ st : ByteArray, st = ⟨(itoa (K : Int)).toArray⟩ := ⟨_, rfl⟩
      have hz := HSz.out K (by omega)
      have HCat := Lib.hid (HNm.out K)
      have HD : Hid (∀ W, Calls Try.prog 15 #[.int .i64 (K : Int)] W fun e w' => e = .returned (.string st) ∧ W = w') := Lib.hid (fun W => by
        have := HDg.out K (by omega) W
        rw [hst]; exact this)
      rw [← hst] at hz HCat
      clear hst HR
      go_wp2_with fail
      refine HM1.out.mono ?_
      rintro e w2 ⟨rfl, H2⟩
      obtain ⟨T, h1, h2⟩ := H2.out
      obtain ⟨T1, T2, q1, q2, q3, q4, q5, q6⟩ := fl_end h2 K (by omega) (by omega)
      have HRm : Hid (Calls Try.prog 16 #[.pointer (some ⟨f, 0, none⟩), .int .i64 1, .string (⟨#[110]⟩ ++ st)] w2 fun e w' => e = .returned (.int .i64 0) ∧ Hid (FsOwn w w' f T1)) := Lib.hid (by
        have := remove_any h1.st 1 (by decide) (nmD K) (by have := hz; rw [show (nmD K).length = (strB (nmD K)).size from (strB_size _).symm, ← HCat.out, ByteArray.size_append]; show 1 + st.size < _; omega) (by rw [h2.clock]; decide)
        rw [q1] at this
        rw [HCat.out]
        refine Calls.mono this ?_
        rintro e w' ⟨rfl, h5, h6⟩
        exact ⟨rfl, Lib.hid (h1.step h5 h6)⟩)
      have HM2 : Hid (∀ W, FsOwn w W f T1 → Calls Try.prog 14 #[.pointer (some ⟨f, 0, none⟩), .int .i64 1, .string { data := #[109, 111, 114, 101] }, .agg #[.int .i64 6, .int .i64 0, .int .i64 0, .int .i64 0, .int .i64 0, .string { data := #[] }, .int .i64 0, .int .i64 0, .int .i64 0, .int .i64 0, .int .i64 0]] W fun e w' =>
          e = .returned (.tuple #[.int .i64 1001, .int .i64 0]) ∧ Hid (FsOwn w w' f T2)) := Lib.hid (fun W hW => by
        have := make_any hW.st 1 (by decide) moreL (by decide) dir0V (by decide) (by rw [q2]; decide)
        rw [q3] at this
        refine Calls.mono this ?_
        rintro e w' ⟨rfl, h5, h6⟩
        exact ⟨rfl, Lib.hid (hW.step h5 h6)⟩)
      have HM3 : Hid (∀ W, FsOwn w W f T2 → Calls Try.prog 14 #[.pointer (some ⟨f, 0, none⟩), .int .i64 1001, .string { data := #[121, 101, 116, 32, 109, 111, 114, 101] }, .agg #[.int .i64 7, .int .i64 0, .int .i64 0, .int .i64 0, .int .i64 0, .string { data := #[] }, .int .i64 0, .int .i64 0, .int .i64 0, .int .i64 0, .int .i64 0]] W fun e w' =>
          e = .returned (.tuple #[.int .i64 0, .int .i64 14]) ∧ Hid (FsOwn w w' f T2)) := Lib.hid (fun W hW => by
        have := make_any hW.st 1001 (by decide) yetL (by decide) fifoV (by decide) (by rw [q4]; decide)
        rw [q5] at this
        refine Calls.mono this ?_
        rintro e w' ⟨rfl, h5, h6⟩
        exact ⟨rfl, Lib.hid (hW.step h5 h6)⟩)
      have HNs : Hid (∀ W, FsOwn w W f T2 → Calls Try.prog 17 #[.pointer (some ⟨f, 0, none⟩), .int .i64 1] W fun e w' => ∃ ao c, e = .returned (.slice ao 999 c) ∧ Kept NoB W w') := Lib.hid (fun W hW => by
        have := names_any hW.st 1 (by decide) (by rw [q4]; decide)
        rw [q6] at this
        refine this.mono ?_
        rintro e w' ⟨ao, c, rfl, hp⟩
        exact ⟨ao, c, rfl, hp.out.2.2⟩)
      clear h1 h2 q1 q2 q3 q4 q5 q6 HM1 H2
      go_upto_region 12 with fail
      rw [← hK]
      have HKk := Lib.hid hK
      clear hK
      go_upto_region 13 with (first | (go_at_call 15; refine (HD.out _).mono ?_; rintro e w3 ⟨rfl, rfl⟩) | (go_at_call 16; refine HRm.out.mono ?_; rintro e w4 ⟨rfl, H4⟩) | fail)
      have HM2 := Lib.hid (HM2.out _ H4.out)
      clear HRm
      go_upto_region 14 with (first | (go_at_call 14; refine HM2.out.mono ?_; rintro e w5 ⟨rfl, H5⟩) | fail)
      have HM3 := Lib.hid (HM3.out _ H5.out)
      clear HM2
      go_upto_region 15 with (first | (go_at_call 14; refine HM3.out.mono ?_; rintro e w6 ⟨rfl, H6⟩) | fail)
      have HNs := Lib.hid (HNs.out _ H6.out)
      clear HM3
      go_wp2_with (first | (go_at_call 17; refine HNs.out.mono ?_; rintro e w7 ⟨ao, c, rfl, hk7⟩) | (go_at_call 9; refine (HAw.out _).mono ?_; rintro e w8 ⟨rfl, hk8⟩))
      go_ret
      exact ⟨rfl, (H6.out.keep.trans hk7).trans hk8⟩
theorem treeFull_law (v0 : Value) (w : World) (r0 : Arg w 3 v0) : Calls Try.prog 4 #[v0] w fun e w' => e = .returned (.bool true) ∧ Below w.heap.size w w' := by
  obtain ⟨n, rfl, hn⟩ := r0.int rfl
  refine (treeFull_core n w (i64_bd hn)).mono ?_
  rintro e w' ⟨rfl, hk⟩
  exact ⟨rfl, hk.belowNo (Below.refl _ _)⟩
end Go.Proofs.Ytilndmmjdbhmgaa
