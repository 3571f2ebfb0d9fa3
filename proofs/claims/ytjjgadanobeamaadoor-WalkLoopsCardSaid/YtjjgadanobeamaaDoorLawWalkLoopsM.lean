/-
  The law WalkLoops.
-/
import Derived.Test.YtjjgadanobeamaaDoorMw13
namespace Go.Proofs.YtjjgadanobeamaaDoor
open Go.RowKit Go.Lib
set_option linter.unusedVariables false
set_option linter.unusedSimpArgs false
set_option maxRecDepth 20000

theorem itoa_nl (u : Nat) : (⟨#[108]⟩ : ByteArray) ++ (⟨(itoa (u : Int)).toArray⟩ : ByteArray) = strB (nmL u) := by
  rw [itoa_nonneg]
  exact ByteArray.mk_append_mk [108] (decDigits u)
theorem mask8w (n : Int) : bits .and .i64 n 255 = n % 256 := i64_mask n 8 (by decide)
set_option maxHeartbeats 4000000 in
theorem walkLoops_core (k : Int) (w : World) (hk : -9223372036854775808 ≤ k ∧ k ≤ 9223372036854775807) : Calls Tryd.prog 3 #[.int .i64 k] w fun e w' => e = .returned (.bool true) ∧ Kept NoB w w' := by
  have m8 := mask8w
  have HNew := Lib.hid (new_any 10 w (by decide))
  have HAw := Lib.hid awake14_any
  have HDg := Lib.hid (fun (u : Nat) (h : u ≤ 1000) (W : World) => rDigits_any (u : Int) W (by omega) (by omega))
  have HNl := Lib.hid itoa_nl
  have HSz : Hid (∀ u : Nat, u ≤ 1000 → (⟨(itoa (u : Int)).toArray⟩ : ByteArray).size ≤ 6) := Lib.hid (fun u hu => by
    rw [itoa_nonneg]
    exact decDigits_len 6 u (by decide) (by omega))
  obtain ⟨n, hn⟩ : ∃ n : Nat, (n : Int) = k % 256 % 12 + 35 := ⟨(k % 256 % 12 + 35).toNat, by omega⟩
  have hn2 : 35 ≤ n ∧ n ≤ 46 := by omega
  obtain ⟨T1, hT1, hL1⟩ := lk_start 10
  go_enter Tryd.func3, Tryd.ntmps3
  go_upto_region 2 with fail
  rw [← hn]
  clear hn m8
  go_wp2_with fail
  refine HNew.out.mono ?_
  rintro e w1 ⟨f, rfl, hf1, hk1⟩
  have F1 := Lib.hid (FsOwn.made hf1 hk1)
  clear hf1 hk1 HNew
  have HM1 : Hid (Calls Tryd.prog 5 #[.pointer (some ⟨f, 0, none⟩), .int .i64 1, .string { data := #[101, 110, 100] }, .agg #[.int .i64 7, .int .i64 0, .int .i64 0, .int .i64 0, .int .i64 0, .string { data := #[] }, .int .i64 0, .int .i64 0, .int .i64 0, .int .i64 0, .int .i64 0]] w1 fun e w' => e = .returned (.tuple #[.int .i64 2, .int .i64 0]) ∧ Hid (∃ T, FsOwn w w' f T ∧ Lk T 0)) := Lib.hid (by
    have := make_any F1.out.st 1 (by decide) endL (by decide) fifoV (by decide) (by decide)
    rw [hT1] at this
    refine Calls.mono this ?_
    rintro e w' ⟨rfl, h1, h2⟩
    exact ⟨rfl, Lib.hid ⟨T1, F1.out.step h1 h2, hL1⟩⟩)
  clear hT1 hL1
  go_wp2_with fail
  refine HM1.out.mono ?_
  rintro e w2 ⟨rfl, H2⟩
  clear HM1 F1
  go_wp2_with fail
  go_loopw [6, 7, 8, 9, 10] (fun v6 v7 v8 v9 v10 wr => ∃ (i : Nat), v6 = .string (strB (tgtL i)) ∧ v7 = .int .i64 (i : Int) ∧ i ≤ n ∧ Hid (∃ T, FsOwn w wr f T ∧ Lk T i)) (fun _ v7 _ _ _ _ => n - (intOf v7).toNat)
  case atStart => exact ⟨0, rfl, rfl, by omega, H2⟩
  case round =>
    obtain ⟨i, rfl, rfl, hi, HR⟩ := hrel
    clear H2
    by_cases hlt : (i : Int) < n
    · obtain ⟨st, hst⟩ : ∃ st : ByteArray, st = ⟨(itoa (i : Int)).toArray⟩ := ⟨_, rfl⟩
      have hz := HSz.out i (by omega)
      have HCat := Lib.hid (HNl.out i)
      have HD : Hid (∀ W, Calls Tryd.prog 6 #[.int .i64 (i : Int)] W fun e w' => e = .returned (.string st) ∧ W = w') := Lib.hid (fun W => by
        have := HDg.out i (by omega) W
        rw [hst]; exact this)
      rw [← hst] at hz HCat
      clear hst
      have HMk : Hid (Calls Tryd.prog 5 #[.pointer (some ⟨f, 0, none⟩), .int .i64 1, .string (⟨#[108]⟩ ++ st), .agg #[.int .i64 3, .int .i64 0, .int .i64 0, .int .i64 0, .int .i64 0, .string (strB (tgtL i)), .int .i64 0, .int .i64 0, .int .i64 0, .int .i64 0, .int .i64 0]] wr fun e w' =>
          e = .returned (.tuple #[.int .i64 ((i : Int) + 3), .int .i64 0]) ∧ Hid (∃ T, FsOwn w w' f T ∧ Lk T (i + 1))) := Lib.hid (by
        obtain ⟨T, h1, h2⟩ := HR.out
        obtain ⟨T', h3, h4⟩ := lk_make h2 (by omega)
        have := make_any h1.st 1 (by decide) (nmL i) (by have := (nmL_len i (by omega)).2; omega) (symV (tgtL i)) (show (-9223372036854775808 : Int) ≤ 0 ∧ (0 : Int) ≤ 9223372036854775807 by decide) (by rw [h2.clock]; omega)
        rw [HCat.out]
        rw [h3] at this
        refine Calls.mono this ?_
        rintro e w' ⟨rfl, h5, h6⟩
        exact ⟨rfl, Lib.hid ⟨T', h1.step h5 h6, h4⟩⟩)
      obtain ⟨tg, htg⟩ : ∃ tg, tg = strB (tgtL i) := ⟨_, rfl⟩
      rw [← htg] at HMk ⊢
      obtain ⟨nx, hnx⟩ : ∃ nx, nx = strB (tgtL (i + 1)) := ⟨_, rfl⟩
      have HNx : Hid ((⟨#[108]⟩ : ByteArray) ++ st = nx) := Lib.hid (by rw [hnx]; exact HCat.out)
      have HNx2 := Lib.hid hnx
      clear htg hnx HCat
      go_wp2_with (first | (go_at_call 6; refine (HD.out _).mono ?_; rintro e w3 ⟨rfl, rfl⟩) | (go_at_call 5; refine HMk.out.mono ?_; rintro e w4 ⟨rfl, HR4⟩))
      go_roundw
      case rel => exact ⟨i + 1, by rw [HNx.out, HNx2.out], by go_num, by omega, HR4⟩
      case measure => simp [intOf]; omega
    · have hin : i = n := by omega
      subst hin
      obtain ⟨T, h1, h2⟩ := HR.out
      obtain ⟨T', q1, q2, q3, d, nd, q4, q5, q6, q7, q8, q9⟩ := lk_self h2 (by omega)
      have hcl := h2.clock
      have HMs : Hid (Calls Tryd.prog 5 #[.pointer (some ⟨f, 0, none⟩), .int .i64 1, .string { data := #[115, 101, 108, 102] }, .agg #[.int .i64 3, .int .i64 0, .int .i64 0, .int .i64 0, .int .i64 0, .string { data := #[115, 101, 108, 102] }, .int .i64 0, .int .i64 0, .int .i64 0, .int .i64 0, .int .i64 0]] wr fun e w' =>
          e = .returned (.tuple #[.int .i64 ((i : Int) + 3), .int .i64 0]) ∧ Hid (FsOwn w w' f T')) := Lib.hid (by
        have := make_any h1.st 1 (by decide) selfL (by decide) (symV selfL) (by decide) (by rw [hcl]; omega)
        rw [q1] at this
        refine Calls.mono this ?_
        rintro e w' ⟨rfl, h5, h6⟩
        exact ⟨rfl, Lib.hid (h1.step h5 h6)⟩)
      obtain ⟨m, hm⟩ : ∃ m, i = m + 1 := ⟨i - 1, by omega⟩
      have hfo : followP T' 1 60 (nmL m) = if 40 < (0 : Int) + (m : Int) + 1 then some (0, 15) else some (2, 0) := by
        have hpc : turnT (nmL m) [] = [nmL m] := by unfold turnT; rw [pieces_whole _ (low_47 (fun b hb => (nmL_dig m b hb).1))]; rfl
        unfold followP
        rw [hpc]
        exact lk_go q2 (by omega) m (by omega) 60 0 (by omega)
      have hfs : followP T' 1 60 selfL = some (0, 15) := by
        have hpc : turnT selfL [] = [selfL] := by kernel_rfl
        unfold followP
        rw [hpc]
        exact lk_loop q4 q5 q6 q7 q8 q9 40 60 0 (by decide) (by decide)
      obtain ⟨ri, re, hre⟩ : ∃ ri re : Int, followP T' 1 60 (nmL m) = some (ri, re) ∧ ((40 < i → ri = 0 ∧ re = 15) ∧ (¬ 40 < i → ri = 2 ∧ re = 0)) := by
        rw [hfo]
        by_cases h40 : 40 < i
        · rw [if_pos (by omega)]; exact ⟨0, 15, rfl, fun _ => ⟨rfl, rfl⟩, fun h => absurd h40 h⟩
        · rw [if_neg (by omega)]; exact ⟨2, 0, rfl, fun h => absurd h h40, fun _ => ⟨rfl, rfl⟩⟩
      have HF1 : Hid (∀ W, FsOwn w W f T' → Calls Tryd.prog 7 #[.pointer (some ⟨f, 0, none⟩), .int .i64 1, .string (strB (nmL m))] W fun e w' => e = .returned (.tuple #[.int .i64 ri, .int .i64 re]) ∧ Kept NoB W w') := Lib.hid (fun W hW => by
        have hle := nmL_len m (by omega)
        have hok : OkT T' := by obtain ⟨L, B, mb, h⟩ := hW.st; exact h.ok
        have hnx := hok.next.2
        exact follow_any hW.st (by omega) 1 ⟨by decide, by decide⟩ (nmL m) (by simp [nmL]) (by omega) (index0_none _ (low_0 (fun b hb => (nmL_dig m b hb).1))) 60 (by decide) ri re hre.1)
      have HF2 : Hid (∀ W, FsOwn w W f T' → Calls Tryd.prog 7 #[.pointer (some ⟨f, 0, none⟩), .int .i64 1, .string { data := #[115, 101, 108, 102] }] W fun e w' => e = .returned (.tuple #[.int .i64 0, .int .i64 15]) ∧ Kept NoB W w') := Lib.hid (fun W hW => by
        have hok : OkT T' := by obtain ⟨L, B, mb, h⟩ := hW.st; exact h.ok
        have hnx := hok.next.2
        exact follow_any hW.st (by omega) 1 ⟨by decide, by decide⟩ selfL (by decide) (by decide) (by decide) 60 (by decide) 0 15 hfs)
      obtain ⟨tg, htg⟩ : ∃ tg, tg = strB (tgtL i) := ⟨_, rfl⟩
      rw [← htg]
      have htg2 : strB (nmL m) = tg := by rw [htg, hm]; rfl
      rw [htg2] at HF1
      obtain ⟨hA, hB⟩ := hre.2
      clear h1 h2 q1 q2 q3 q4 q5 q6 q7 q8 q9 hcl hfo hfs hre htg htg2 HR hm hlt
      by_cases h40 : 40 < i
      · obtain ⟨rfl, rfl⟩ := hA h40
        have h40b : ((40 : Int) < (i : Int)) := by omega
        clear hA hB h40
        go_upto_region 16 with (first | (go_at_call 5; refine HMs.out.mono ?_; rintro e w3 ⟨rfl, F3⟩) | fail)
        have HF1 := Lib.hid (HF1.out _ F3.out)
        go_upto_region 17 with (first | (go_at_call 7; refine HF1.out.mono ?_; rintro e w4 ⟨rfl, hk4⟩) | fail)
        have F4 := Lib.hid (F3.out.kept hk4)
        have HF2 := Lib.hid (HF2.out _ F4.out)
        clear HF1 F3 hk4 HMs
        go_upto_region 18 with (first | (go_at_call 7; refine HF2.out.mono ?_; rintro e w5 ⟨rfl, hk5⟩) | fail)
        have F5 := Lib.hid (F4.out.kept hk5)
        clear HF2 F4 hk5
        go_wp2_with (go_at_call 8; refine (HAw.out _).mono ?_; rintro e w6 ⟨rfl, hk6⟩)
        go_ret
        exact ⟨rfl, F5.out.keep.trans hk6⟩
      · obtain ⟨rfl, rfl⟩ := hB h40
        have h40b : ¬ ((40 : Int) < (i : Int)) := by omega
        clear hA hB h40
        go_upto_region 16 with (first | (go_at_call 5; refine HMs.out.mono ?_; rintro e w3 ⟨rfl, F3⟩) | fail)
        have HF1 := Lib.hid (HF1.out _ F3.out)
        go_upto_region 17 with (first | (go_at_call 7; refine HF1.out.mono ?_; rintro e w4 ⟨rfl, hk4⟩) | fail)
        have F4 := Lib.hid (F3.out.kept hk4)
        have HF2 := Lib.hid (HF2.out _ F4.out)
        clear HF1 F3 hk4 HMs
        go_upto_region 18 with (first | (go_at_call 7; refine HF2.out.mono ?_; rintro e w5 ⟨rfl, hk5⟩) | fail)
        have F5 := Lib.hid (F4.out.kept hk5)
        clear HF2 F4 hk5
        go_wp2_with (go_at_call 8; refine (HAw.out _).mono ?_; rintro e w6 ⟨rfl, hk6⟩)
        go_ret
        exact ⟨rfl, F5.out.keep.trans hk6⟩
theorem walkLoops_law (v0 : Value) (w : World) (r0 : Arg w 3 v0) : Calls Tryd.prog 3 #[v0] w fun e w' => e = .returned (.bool true) ∧ Below w.heap.size w w' := by
  obtain ⟨n, rfl, hn⟩ := r0.int rfl
  refine (walkLoops_core n w (i64_bd hn)).mono ?_
  rintro e w' ⟨rfl, hk⟩
  exact ⟨rfl, hk.belowNo (Below.refl _ _)⟩
end Go.Proofs.YtjjgadanobeamaaDoor
