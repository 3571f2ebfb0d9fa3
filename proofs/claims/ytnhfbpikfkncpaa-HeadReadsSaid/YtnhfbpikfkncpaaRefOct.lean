/-
  The document's Octal and Wide of a field.
-/
import Derived.Test.YtnhfbpikfkncpaaOctW
import Derived.OwnWalk
namespace Go.Proofs.Ytnhfbpikfkncpaa
open Go.RowKit
set_option linter.unusedVariables false
set_option linter.unusedSimpArgs false

def rOct (n wd : Int) : List Int × Bool := if 2 ≤ wd ∧ wd ≤ 12 ∧ 0 ≤ n then (pre (oc n) (wd.toNat - 1) ++ [0], decide (sh 8 n (wd.toNat - 1) = 0)) else ([], false)
theorem digit_lit (k : Nat) (hk : k < 8) : (⟨#[48, 49, 50, 51, 52, 53, 54, 55]⟩ : ByteArray).extract k (k + 1) = strOfNums [48 + (k : Int)] := by
  have hc : k = 0 ∨ k = 1 ∨ k = 2 ∨ k = 3 ∨ k = 4 ∨ k = 5 ∨ k = 6 ∨ k = 7 := by omega
  rcases hc with rfl | rfl | rfl | rfl | rfl | rfl | rfl | rfl <;> decide +kernel

set_option maxRecDepth 20000 in
set_option maxHeartbeats 2000000 in
theorem rOctal_any (n wd : Int) (w : World) (hn : -9223372036854775808 ≤ n ∧ n ≤ 9223372036854775807) :
    Calls Try.prog 16 #[.int .i64 n, .int .i64 wd] w fun e w' => e = .returned (.tuple #[.string (strOfNums (rOct n wd).1), .bool (rOct n wd).2]) ∧ Kept NoB w w' := by
  by_cases hw : 2 ≤ wd ∧ wd ≤ 12 ∧ 0 ≤ n
  · have hs : rOct n wd = (pre (oc n) (wd.toNat - 1) ++ [0], decide (sh 8 n (wd.toNat - 1) = 0)) := by unfold rOct; rw [if_pos hw]
    obtain ⟨K, rfl⟩ : ∃ K : Nat, wd = ((K + 1 : Nat) : Int) := ⟨wd.toNat - 1, by omega⟩
    rw [show ((K + 1 : Nat) : Int).toNat - 1 = K by omega] at hs
    have HS := Lib.hid hs
    have hK : 1 ≤ K ∧ K ≤ 11 := by omega
    have h0 : 0 ≤ n := hw.2.2
    have HRg := Lib.hid (fun t => sh_nonneg 8 n (by decide) h0 t)
    clear hs hw
    go_enter Try.func16, Try.ntmps16
    go_wp2
    go_loopw [0, 6, 7] (fun v0 v6 v7 wr => ∃ (t : Nat) (x : Int), t ≤ K ∧ v0 = .int .i64 x ∧ v6 = .string (strOfNums (pre (oc n) t)) ∧ v7 = .int .i64 ((t : Int) + 1) ∧ Hid (x = sh 8 n t) ∧ Hid (Kept NoB w wr)) (fun _ _ v7 _ => (K + 1 - (intOf v7)).toNat)
    case atStart => exact ⟨0, n, by omega, rfl, rfl, rfl, rfl, Kept.refl _ _⟩
    case round =>
      obtain ⟨t, x, ht, rfl, rfl, rfl, HX, HK⟩ := hrel
      have hxr : 0 ≤ x ∧ x ≤ 9223372036854775807 := by have := HRg.out t; rw [← HX.out] at this; omega
      by_cases htK : t < K
      · have hlt : (t : Int) + 1 < (K : Int) + 1 := by omega
        obtain ⟨k, hk⟩ : ∃ k : Nat, (k : Int) = x % 8 := ⟨(x % 8).toNat, Int.toNat_of_nonneg (by omega)⟩
        have hk8 : k < 8 := by omega
        have hm := mask7 x
        rw [← hk] at hm
        have hlit := digit_lit k hk8
        have hcat : strOfNums [48 + (k : Int)] ++ strOfNums (pre (oc n) t) = strOfNums (pre (oc n) (t + 1)) := by
          rw [str_append]
          show strOfNums ((48 + (k : Int)) :: pre (oc n) t) = strOfNums (oc n t :: pre (oc n) t)
          rw [hk, HX.out]; rfl
        have hz : (strOfNums (pre (oc n) t)).size = t := by rw [strOfNums_size, pre_len]
        have hz1 : (strOfNums [48 + (k : Int)]).size = 1 := strOfNums_size _
        have hxn : Hid (x / 8 = sh 8 n (t + 1)) := by rw [HX.out]; rfl
        have HCat := Lib.hid hcat
        clear hk hcat
        generalize strOfNums (pre (oc n) t) = st at hz HCat
        go_wp2
        go_roundw
        case rel => exact ⟨t + 1, _, by omega, rfl, by rw [HCat.out], by go_num, hxn, HK⟩
        case measure => simp [intOf]; omega
      · have htK' : t = K := by omega
        subst htK'
        have hlt : ¬ (t : Int) + 1 < (t : Int) + 1 := by omega
        have hcat : strOfNums (pre (oc n) t) ++ ⟨#[0]⟩ = strOfNums (pre (oc n) t ++ [0]) := str_append _ [0]
        have hz : (strOfNums (pre (oc n) t)).size = t := by rw [strOfNums_size, pre_len]
        have HS2 : Hid ((strOfNums (rOct n ((t + 1 : Nat) : Int)).1, (rOct n ((t + 1 : Nat) : Int)).2) = (strOfNums (pre (oc n) t) ++ ⟨#[0]⟩, decide (x = 0))) := by
          have h1 := HS.out
          rw [← HX.out] at h1
          rw [h1, hcat]
          rfl
        clear hcat
        push_cast at HS2 ⊢
        generalize strOfNums (pre (oc n) t) = st at hz HS2
        by_cases hx0 : x = 0
        · subst hx0
          have h2 := HS2.out
          simp only [Prod.mk.injEq, decide_true] at h2
          have H3 := Lib.hid h2
          clear h2 HS2
          go_wp2
          go_ret2
          exact ⟨by rw [H3.out.1, H3.out.2]; rfl, HK.out⟩
        · have hx1 : (x == 0) = false := by simp; exact hx0
          have h2 := HS2.out
          simp only [Prod.mk.injEq, decide_eq_false hx0] at h2
          have H3 := Lib.hid h2
          clear h2 HS2 hx0
          go_wp2
          go_ret2
          exact ⟨by rw [H3.out.1, H3.out.2]; rfl, HK.out⟩
  · have hs : rOct n wd = ([], false) := by unfold rOct; rw [if_neg hw]
    rw [hs]
    have hc : wd < 2 ∨ (¬ wd < 2 ∧ 12 < wd) ∨ (¬ wd < 2 ∧ ¬ 12 < wd ∧ n < 0) := by omega
    clear hw hs
    rcases hc with h | ⟨h1, h2⟩ | ⟨h1, h2, h3⟩
    all_goals
      go_enter Try.func16, Try.ntmps16
      go_wp2
      go_ret2
      exact ⟨rfl, Kept.refl _ _⟩

def rWide (n wd : Int) : List Int × Bool := if 2 ≤ wd ∧ wd ≤ 12 then ((if n < 0 then 255 else 128) :: pre (wc8 n) (wd.toNat - 1), decide (sh 256 n (wd.toNat - 1) = if n < 0 then -1 else 0)) else ([], false)

set_option maxRecDepth 20000 in
set_option maxHeartbeats 2000000 in
theorem rWide_any (n wd : Int) (w : World) (hn : -9223372036854775808 ≤ n ∧ n ≤ 9223372036854775807) :
    Calls Try.prog 41 #[.int .i64 n, .int .i64 wd] w fun e w' => e = .returned (.tuple #[.string (strOfNums (rWide n wd).1), .bool (rWide n wd).2]) ∧ Kept NoB w w' := by
  by_cases hw : 2 ≤ wd ∧ wd ≤ 12
  · have hs : rWide n wd = ((if n < 0 then 255 else 128) :: pre (wc8 n) (wd.toNat - 1), decide (sh 256 n (wd.toNat - 1) = if n < 0 then -1 else 0)) := by unfold rWide; rw [if_pos hw]
    obtain ⟨K, rfl⟩ : ∃ K : Nat, wd = ((K + 1 : Nat) : Int) := ⟨wd.toNat - 1, by omega⟩
    rw [show ((K + 1 : Nat) : Int).toNat - 1 = K by omega] at hs
    have HS := Lib.hid hs
    have hK : 1 ≤ K ∧ K ≤ 11 := by omega
    have HRg := Lib.hid (fun t => sh_range n t _ _ (by decide) (by decide) hn)
    clear hs hw
    go_enter Try.func41, Try.ntmps41
    go_wp2
    go_loopw [6, 7, 8] (fun v6 v7 v8 wr => ∃ (t : Nat) (x : Int), t ≤ K ∧ v7 = .int .i64 x ∧ v6 = .string (strOfNums (pre (wc8 n) t)) ∧ v8 = .int .i64 ((t : Int) + 1) ∧ Hid (x = sh 256 n t) ∧ Hid (Kept NoB w wr)) (fun _ _ v8 _ => (K + 1 - (intOf v8)).toNat)
    case atStart => exact ⟨0, n, by omega, rfl, rfl, rfl, rfl, Kept.refl _ _⟩
    case round =>
      obtain ⟨t, x, ht, rfl, rfl, rfl, HX, HK⟩ := hrel
      have hxr : -9223372036854775808 ≤ x ∧ x ≤ 9223372036854775807 := by have := HRg.out t; rw [← HX.out] at this; exact this
      by_cases htK : t < K
      · have hlt : (t : Int) + 1 < (K : Int) + 1 := by omega
        have hcat : strOfNums [x % 256] ++ strOfNums (pre (wc8 n) t) = strOfNums (pre (wc8 n) (t + 1)) := by
          rw [str_append]
          show strOfNums ((x % 256) :: pre (wc8 n) t) = strOfNums (wc8 n t :: pre (wc8 n) t)
          rw [HX.out]; rfl
        have hz : (strOfNums (pre (wc8 n) t)).size = t := by rw [strOfNums_size, pre_len]
        have hz1 : (strOfNums [x % 256]).size = 1 := strOfNums_size _
        have hxn : Hid (x / 256 = sh 256 n (t + 1)) := by rw [HX.out]; rfl
        have HCat := Lib.hid hcat
        have hcv := conv_reads (w := wr.alloc (.cells #[.int .u8 (x % 256)] 5)) (ao := some ⟨wr.heap.size, 0, none⟩) (n := 1) (cap := 1) (xs := [x % 256]) (lit_reads (t := 5) (fr := (0, 0)) (cs := #[.int .u8 (x % 256)]) _ (heap_alloc_new _ _) rfl) rfl (by intro h; cases h)
        have hk2 : Kept NoB w (wr.alloc (.cells #[.int .u8 (x % 256)] 5)) := HK.out.alloc _
        have HK2 := Lib.hid hk2
        clear hcat hk2
        generalize strOfNums (pre (wc8 n) t) = st at hz HCat
        go_wp2
        go_roundw
        case rel => exact ⟨t + 1, _, by omega, rfl, by rw [HCat.out], by go_num, hxn, HK2⟩
        case measure => simp [intOf]; omega
      · have htK' : t = K := by omega
        subst htK'
        have hlt : ¬ (t : Int) + 1 < (t : Int) + 1 := by omega
        have hcat1 : (⟨#[255]⟩ : ByteArray) ++ strOfNums (pre (wc8 n) t) = strOfNums (255 :: pre (wc8 n) t) := str_append [255] _
        have hcat2 : (⟨#[128]⟩ : ByteArray) ++ strOfNums (pre (wc8 n) t) = strOfNums (128 :: pre (wc8 n) t) := str_append [128] _
        have hz : (strOfNums (pre (wc8 n) t)).size = t := by rw [strOfNums_size, pre_len]
        have h1 := HS.out
        rw [← HX.out] at h1
        by_cases hneg : n < 0
        · rw [if_pos hneg, if_pos hneg] at h1
          have HS2 : Hid (strOfNums (rWide n ((t + 1 : Nat) : Int)).1 = (⟨#[255]⟩ : ByteArray) ++ strOfNums (pre (wc8 n) t) ∧ (rWide n ((t + 1 : Nat) : Int)).2 = decide (x = -1)) := by
            rw [h1, hcat1]; exact ⟨rfl, rfl⟩
          clear hcat1 hcat2 h1 HS
          push_cast at HS2 ⊢
          generalize strOfNums (pre (wc8 n) t) = st at hz HS2
          have hdec : (x == -1) = decide (x = -1) := by by_cases h : x = -1 <;> simp [h]
          go_wp2
          go_ret2
          exact ⟨by rw [HS2.out.1, HS2.out.2, ← hdec]; rfl, HK.out⟩
        · rw [if_neg hneg, if_neg hneg] at h1
          have HS2 : Hid (strOfNums (rWide n ((t + 1 : Nat) : Int)).1 = (⟨#[128]⟩ : ByteArray) ++ strOfNums (pre (wc8 n) t) ∧ (rWide n ((t + 1 : Nat) : Int)).2 = decide (x = 0)) := by
            rw [h1, hcat2]; exact ⟨rfl, rfl⟩
          clear hcat1 hcat2 h1 HS
          push_cast at HS2 ⊢
          generalize strOfNums (pre (wc8 n) t) = st at hz HS2
          have hdec : (x == 0) = decide (x = 0) := by by_cases h : x = 0 <;> simp [h]
          go_wp2
          go_ret2
          exact ⟨by rw [HS2.out.1, HS2.out.2, ← hdec]; rfl, HK.out⟩
  · have hs : rWide n wd = ([], false) := by unfold rWide; rw [if_neg hw]
    rw [hs]
    have hc : wd < 2 ∨ (¬ wd < 2 ∧ 12 < wd) := by omega
    clear hw hs
    rcases hc with h | ⟨h1, h2⟩
    all_goals
      go_enter Try.func41, Try.ntmps41
      go_wp2
      go_ret2
      exact ⟨rfl, Kept.refl _ _⟩

/-- A row told, or none. -/
def told (s : List Int × Bool) : List Int × Bool := if s.2 = true then s else ([], false)
theorem octS_told (n wd : Int) : octS n wd = told (rOct n wd) := by
  by_cases h : 2 ≤ wd ∧ wd ≤ 12 ∧ 0 ≤ n
  · rw [octS_pre n wd h]
    have e : rOct n wd = (pre (oc n) (wd.toNat - 1) ++ [0], decide (sh 8 n (wd.toNat - 1) = 0)) := if_pos h
    rw [e]
    unfold told
    by_cases h0 : sh 8 n (wd.toNat - 1) = 0 <;> simp [h0]
  · rw [octS_out n wd h]
    have e : rOct n wd = ([], false) := if_neg h
    rw [e]; rfl
theorem wideS_told (n wd : Int) : wideS n wd = told (rWide n wd) := by
  by_cases h : 2 ≤ wd ∧ wd ≤ 12
  · rw [wideS_pre n wd h]
    have e : rWide n wd = ((if n < 0 then 255 else 128) :: pre (wc8 n) (wd.toNat - 1), decide (sh 256 n (wd.toNat - 1) = if n < 0 then -1 else 0)) := if_pos h
    rw [e]
    unfold told
    by_cases hn : n < 0
    · by_cases h0 : sh 256 n (wd.toNat - 1) = -1 <;> simp [hn, h0]
    · by_cases h0 : sh 256 n (wd.toNat - 1) = 0 <;> simp [hn, h0]
  · rw [wideS_out n wd h]
    have e : rWide n wd = ([], false) := if_neg h
    rw [e]; rfl

set_option maxHeartbeats 1000000 in
theorem rField_any (n wd : Int) (b : Bool) (w : World) (hn : -9223372036854775808 ≤ n ∧ n ≤ 9223372036854775807) :
    Calls Try.prog 30 #[.int .i64 n, .int .i64 wd, .bool b] w fun e w' => e = .returned (.tuple #[.string (strOfNums (fieldS n wd b).1), .bool (fieldS n wd b).2]) ∧ Kept NoB w w' := by
  have HO := Lib.hid (rOctal_any n wd w hn)
  have HW := Lib.hid (fun w => rWide_any n wd w hn)
  have hf : fieldS n wd b = if (rOct n wd).2 = true then ((rOct n wd).1, true) else if b = true then (if (rWide n wd).2 = true then ((rWide n wd).1, true) else ([], false)) else ([], false) := by
    unfold fieldS
    rw [octS_told, wideS_told]
    unfold told
    generalize rOct n wd = o
    generalize rWide n wd = u
    obtain ⟨o1, o2⟩ := o
    obtain ⟨u1, u2⟩ := u
    cases o2 <;> cases u2 <;> cases b <;> rfl
  have HF := Lib.hid hf
  clear hf hn
  generalize rOct n wd = o at HO HF
  generalize rWide n wd = u at HW HF
  generalize fieldS n wd b = q at HF ⊢
  obtain ⟨o1, o2⟩ := o
  obtain ⟨u1, u2⟩ := u
  simp only at HO HW HF
  go_enter Try.func30, Try.ntmps30
  go_wp2_with fail
  refine HO.out.mono ?_
  rintro e w1 ⟨rfl, hk1⟩
  have HK1 := Lib.hid hk1
  clear hk1
  cases o2 with
  | true =>
    go_wp2
    go_ret2
    exact ⟨by rw [HF.out]; rfl, HK1.out⟩
  | false =>
    cases b with
    | false =>
      go_wp2
      go_ret2
      exact ⟨by rw [HF.out]; rfl, HK1.out⟩
    | true =>
      go_wp2_with fail
      refine (HW.out _).mono ?_
      rintro e w2 ⟨rfl, hk2⟩
      have HK2 := Lib.hid hk2
      clear hk2
      cases u2 with
      | true =>
        go_wp2
        go_ret2
        exact ⟨by rw [HF.out]; rfl, HK1.out.trans HK2.out⟩
      | false =>
        go_wp2
        go_ret2
        exact ⟨by rw [HF.out]; rfl, HK1.out.trans HK2.out⟩
end Go.Proofs.Ytnhfbpikfkncpaa
