/-
  The document's side of blocks: noughts, a text in a field, the sum, a cut text, a block of noughts.
-/
import Derived.Test.YtnhfbpikfkncpaaHeadU
import Derived.Test.YtnhfbpikfkncpaaRefOct
import Derived.Test.YtnhfbpikfkncpaaRefNum
namespace Go.Proofs.Ytnhfbpikfkncpaa
open Go.RowKit
set_option linter.unusedVariables false
set_option linter.unusedSimpArgs false

set_option maxHeartbeats 1000000 in
theorem rnoughts_any (n : Int) (w : World) (hn : n ≤ 100000) (hlo : -9223372036854775808 ≤ n) : Calls Try.prog 31 #[.int .i64 n] w fun e w' => e = .returned (.string (strOfNums (List.replicate n.toNat 0))) ∧ Kept NoB w w' := by
  obtain ⟨N, hN⟩ : ∃ N : Nat, N = n.toNat := ⟨_, rfl⟩
  rw [← hN]
  have hmx : max n 0 = (N : Int) := by omega
  have hN2 : N ≤ 100000 := by omega
  have HN := Lib.hid hN
  clear hN hn hlo
  go_enter Try.func31, Try.ntmps31
  obtain ⟨i0, hi0, hz0, hz1, hz2⟩ := info_parts info5
  obtain ⟨w6, hrun, hown6, hg6⟩ := run_make_full (P := Try.prog) w 0 24 5 i0 (.int .u8 0) 1 Try.underlying24 hi0 hz0 hz1 .i64 .i64 N (by rw [hz2]; omega) (by unfold maxLen; omega) (Nat.zero_le _)
  have hk6 : Kept NoB w w6 := (Kept.refl NoB w).grown hg6 (fun _ _ e => by cases e)
  obtain ⟨g6, hg6e⟩ : ∃ g, g = w.heap.size := ⟨_, rfl⟩
  rw [← hg6e] at hrun hown6
  have hz6 : Reads w6 (some ⟨g6, 0, none⟩) (List.replicate N 0) := lit_reads (t := 5) (fr := (0, 0)) (List.replicate N 0) (own_full hown6) (by
    show (madeCells #[Value.int .u8 0] (N * 1)).toList = _
    rw [Nat.mul_one, toList_madeCells_one, List.map_replicate])
  have hcv := conv_reads (n := N) (cap := N) hz6 (by simp) (fun h => by cases h)
  have hrun : (Instr.makeSlice 24 (.int .i64 (N : Int)) (.int .i64 (N : Int))).run Try.prog w = .ok (.slice (some ⟨g6, 0, none⟩) N N) w6 := hrun
  have HK6 := Lib.hid hk6
  clear hk6 hz6 hown6 hg6 hg6e hi0 hz0 hz1 hz2
  go_wp2
  go_ret
  exact ⟨rfl, HK6.out⟩

set_option maxHeartbeats 1000000 in
theorem rsum_any (bs : List Int) (w : World) (hb : AllB bs) (hl : bs.length ≤ 9223372036854775807) :
    Calls Try.prog 15 #[.string (strOfNums bs)] w fun e w' => e = .returned (.int .i64 (sumL bs)) ∧ w = w' := by
  obtain ⟨n, hn⟩ : ∃ n, n = bs.length := ⟨_, rfl⟩
  have hz : (strOfNums bs).size = n := by rw [strOfNums_size, hn]
  by_cases h5 : n = 512
  · have hs : sumL bs = sumTo bs 512 := by rw [sumL, if_pos (by omega)]
    subst h5
    have hc := fun i hi => str_atI bs hb i hi
    have hg := fun i => AllB.getD hb i
    have hbd := sumTo_bd hb
    obtain ⟨T, hT⟩ : ∃ T, T = sumTo bs := ⟨_, rfl⟩
    rw [← hT] at hs hbd
    have hst : ∀ i, T (i + 1) = T i + wgt bs i := fun i => by rw [hT]; rfl
    rw [hs]
    have HC := Lib.hid hc; have HG := Lib.hid hg; have HB := Lib.hid hbd; have HS := Lib.hid hst; have HN := Lib.hid hn
    have HT0 : Hid (T 0 = 0) := Lib.hid (by rw [hT]; rfl)
    clear hs hb hc hg hbd hst hT hn
    obtain ⟨S, hS⟩ : ∃ S, S = strOfNums bs := ⟨_, rfl⟩
    rw [← hS] at hz HC ⊢
    clear hS
    go_enter Try.func15, Try.ntmps15
    go_wp2
    go_loopw [3, 4] (fun v3 v4 wr => ∃ i : Nat, v4 = .int .i64 (i : Int) ∧ v3 = .int .i64 (T i) ∧ i ≤ 512 ∧ Hid (w = wr)) (fun _ v4 _ => 512 - (intOf v4).toNat)
    case atStart => exact ⟨0, rfl, by rw [HT0.out], by omega, Lib.hid rfl⟩
    case round =>
      obtain ⟨i, rfl, rfl, hi, HW⟩ := hrel
      by_cases hlt : (i : Int) < 512
      · have his : i < S.size := by omega
        have hci := HC.out i his
        have hgi := HG.out i
        obtain ⟨z, hz2⟩ : ∃ z, z = bs.getD i 0 := ⟨_, rfl⟩
        rw [← hz2] at hci hgi
        have hb1 := HB.out i
        have hst := HS.out i
        obtain ⟨t, ht⟩ : ∃ t, t = T i := ⟨_, rfl⟩
        rw [← ht] at hb1 hst ⊢
        have hcv : IntKind.i64.wrap z = z := IntWalk.i64_in _ (by omega)
        by_cases h1 : 148 ≤ (i : Int)
        · by_cases h2 : (i : Int) < 156
          · have HX : Hid (T (i + 1) = t + 32) := Lib.hid (by rw [hst, wgt, if_pos (by omega)])
            clear hst ht hz2
            go_wp2
            go_roundw
            case rel => exact ⟨i + 1, by go_num, by rw [HX.out], by omega, HW⟩
            case measure => simp [intOf]; omega
          · have HX : Hid (T (i + 1) = t + z) := Lib.hid (by rw [hst, wgt, if_neg (by omega), hz2])
            clear hst ht hz2
            go_wp2
            go_roundw
            case rel => exact ⟨i + 1, by go_num, by rw [HX.out], by omega, HW⟩
            case measure => simp [intOf]; omega
        · have HX : Hid (T (i + 1) = t + z) := Lib.hid (by rw [hst, wgt, if_neg (by omega), hz2])
          clear hst ht hz2
          go_wp2
          go_roundw
          case rel => exact ⟨i + 1, by go_num, by rw [HX.out], by omega, HW⟩
          case measure => simp [intOf]; omega
      · have hi5 : i = 512 := by omega
        subst hi5
        go_wp2
        go_ret
        exact ⟨rfl, HW.out⟩
  · have hs : sumL bs = 0 := by rw [sumL, if_neg (by omega)]
    have h1 : ((n : Int) != 512) = true := by simp; omega
    have h2 : ((n : Int) == 512) = false := by simp; omega
    rw [hs]
    clear hn hb
    go_enter Try.func15, Try.ntmps15
    go_wp2
    go_ret
    exact ⟨rfl, rfl⟩

theorem txt_len_cut (ss : List Int) : txt ss ss.length = cutZ ss := by
  unfold txt
  exact List.take_of_length_le (List.takeWhile_prefix _).length_le
set_option maxHeartbeats 1000000 in
theorem cut16_any (ss : List Int) (w : World) (hb : AllB ss) (hl : ss.length ≤ 1000000) : Calls Try.prog 33 #[.string (strOfNums ss)] w fun e w' => e = .returned (.string (strOfNums (cutZ ss))) ∧ w = w' := by
  obtain ⟨L, hL⟩ : ∃ L, L = ss.length := ⟨_, rfl⟩
  have hsz : (strOfNums ss).size = L := by rw [strOfNums_size, hL]
  have hat := fun i hi => str_atI ss hb i hi
  have htk := str_take ss
  have hcz := txt_len_cut ss
  rw [← hL] at hcz
  have HSt := Lib.hid (fun i => txt_stop ss L i); have HAl := Lib.hid (txt_all ss L); have HCz := Lib.hid hcz
  have HAt := Lib.hid hat; have HTk := Lib.hid htk; have HL := Lib.hid hL; have HB := Lib.hid hb
  rw [← hL] at hl
  obtain ⟨S, hS⟩ : ∃ S, S = strOfNums ss := ⟨_, rfl⟩
  rw [← hS] at hsz HAt HTk ⊢
  have HS := Lib.hid hS
  clear hat htk hL hb hS hcz
  go_enter Try.func33, Try.ntmps33
  go_wp2
  go_loopw [3] (fun v3 wr => ∃ i : Nat, v3 = .int .i64 (i : Int) ∧ i ≤ L ∧ Hid (∀ j, j < i → ss.getD j 0 ≠ 0) ∧ Hid (w = wr)) (fun v3 _ => L - (intOf v3).toNat)
  case atStart => exact ⟨0, rfl, by omega, Lib.hid (fun j hj => by omega), Lib.hid rfl⟩
  case round =>
    obtain ⟨i, rfl, hi, HP, HW⟩ := hrel
    by_cases hlt : (i : Int) < (L : Int)
    · have hil : i < ss.length := by have := HL.out; omega
      have his : i < S.size := by omega
      have hz := HAt.out i his
      obtain ⟨z, hzz⟩ : ∃ z, z = ss.getD i 0 := ⟨_, rfl⟩
      rw [← hzz] at hz
      have HZ := Lib.hid hzz
      by_cases h0 : z = 0
      · have HF : Hid (strOfNums (cutZ ss) = S.extract 0 i) := Lib.hid (by rw [HTk.out, ← HCz.out, HSt.out i hil HP.out (.inl (by rw [← HZ.out]; exact h0)) hi])
        clear hzz hil
        subst h0
        go_wp2
        go_ret
        exact ⟨by rw [HF.out]; rfl, HW.out⟩
      · have h0b : (z == 0) = false := by simp [h0]
        have HPn : Hid (∀ j, j < i + 1 → ss.getD j 0 ≠ 0) := Lib.hid (fun j hj => by
          by_cases e : j = i
          · subst e; rw [← HZ.out]; exact h0
          · exact HP.out j (by omega))
        clear hzz hil h0
        go_wp2
        go_roundw
        case rel => exact ⟨i + 1, by go_num, by omega, HPn, HW⟩
        case measure => simp [intOf]; omega
    · have hie : i = L := by omega
      have HF : Hid (strOfNums (cutZ ss) = S) := Lib.hid (by rw [HS.out, ← HCz.out, HAl.out (fun j hj => HP.out j (by have := HL.out; omega)) (by have := HL.out; omega)])
      clear hie
      go_wp2
      go_ret
      exact ⟨by rw [HF.out]; rfl, HW.out⟩
theorem has0 (ss : List Int) (i : Nat) (hi : i < ss.length) (h : ss.getD i 0 = 0) : ss.contains 0 = true := by
  have e : ss[i] = 0 := by simpa [List.getD, hi] using h
  have : (0 : Int) ∈ ss := e ▸ List.getElem_mem hi
  simpa using this
theorem no0 (ss : List Int) (h : ∀ j, j < ss.length → ss.getD j 0 ≠ 0) : ss.contains 0 = false := by
  cases hc : ss.contains 0 with
  | false => rfl
  | true =>
    exfalso
    have : (0 : Int) ∈ ss := by simpa using hc
    obtain ⟨j, hj, e⟩ := List.getElem_of_mem this
    exact h j hj (by simp [List.getD, hj, e])
set_option maxHeartbeats 1000000 in
theorem rfield16_any (ss : List Int) (W : Nat) (w : World) (hb : AllB ss) (hl : ss.length ≤ 100000) (hW : W ≤ 1000) : Calls Try.prog 29 #[.string (strOfNums ss), .int .i64 (W : Int)] w fun e w' => (∃ t, e = .returned (.tuple #[.string t, .bool (okT ss W)]) ∧ (okT ss W = true → t = strOfNums (padT ss W))) ∧ Kept NoB w w' := by
  obtain ⟨L, hL⟩ : ∃ L, L = ss.length := ⟨_, rfl⟩
  have hsz : (strOfNums ss).size = L := by rw [strOfNums_size, hL]
  have hat := fun i hi => str_atI ss hb i hi
  have HAt := Lib.hid hat; have HL := Lib.hid hL
  have HN := Lib.hid (fun W0 => rnoughts_any ((W : Int) - (L : Int)) W0 (by omega) (by omega))
  have HPd : Hid (strOfNums ss ++ strOfNums (List.replicate ((W : Int) - (L : Int)).toNat 0) = strOfNums (padT ss W)) := Lib.hid (by rw [str_append, padT, ← hL, show ((W : Int) - (L : Int)).toNat = W - L by omega])
  have HF0 : Hid (∀ i, i < L → ss.getD i 0 = 0 → okT ss W = false) := Lib.hid (fun i hi h => by unfold okT; rw [has0 ss i (by omega) h]; simp)
  have HF1 : Hid ((∀ j, j < L → ss.getD j 0 ≠ 0) → okT ss W = decide (L ≤ W)) := Lib.hid (fun h => by unfold okT; rw [no0 ss (by rw [← hL]; exact h), ← hL]; simp)
  rw [← hL] at hl
  obtain ⟨S, hS⟩ : ∃ S, S = strOfNums ss := ⟨_, rfl⟩
  rw [← hS] at hsz HAt HPd ⊢
  clear hat hL hb hS
  go_enter Try.func29, Try.ntmps29
  go_wp2
  go_loopw [6] (fun v6 wr => ∃ i : Nat, v6 = .int .i64 (i : Int) ∧ i ≤ L ∧ Hid (∀ j, j < i → ss.getD j 0 ≠ 0) ∧ Hid (w = wr)) (fun v6 _ => L - (intOf v6).toNat)
  case atStart => exact ⟨0, rfl, by omega, Lib.hid (fun j hj => by omega), Lib.hid rfl⟩
  case round =>
    obtain ⟨i, rfl, hi, HP, HW⟩ := hrel
    by_cases hlt : (i : Int) < (L : Int)
    · have his : i < S.size := by omega
      have hz := HAt.out i his
      obtain ⟨z, hzz⟩ : ∃ z, z = ss.getD i 0 := ⟨_, rfl⟩
      rw [← hzz] at hz
      have HZ := Lib.hid hzz
      by_cases h0 : z = 0
      · have hf := Lib.hid (HF0.out i (by omega) (by rw [← HZ.out]; exact h0))
        clear hzz
        subst h0
        go_wp2
        go_ret2
        exact ⟨⟨⟨#[]⟩, by rw [hf.out]; rfl, fun h => absurd (hf.out.symm.trans h) (by decide)⟩, by rw [← HW.out]; exact Kept.refl _ _⟩
      · have h0b : (z == 0) = false := by simp [h0]
        have HPn : Hid (∀ j, j < i + 1 → ss.getD j 0 ≠ 0) := Lib.hid (fun j hj => by
          by_cases e : j = i
          · subst e; rw [← HZ.out]; exact h0
          · exact HP.out j (by omega))
        clear hzz h0
        go_wp2
        go_roundw
        case rel => exact ⟨i + 1, by go_num, by omega, HPn, HW⟩
        case measure => simp [intOf]; omega
    · have hie : i = L := by omega
      have hf := Lib.hid (HF1.out (fun j hj => HP.out j (by omega)))
      have hw := HW.out
      subst hw
      clear hie
      obtain ⟨rp, hrp⟩ : ∃ rp, rp = strOfNums (List.replicate ((W : Int) - (L : Int)).toNat 0) := ⟨_, rfl⟩
      have hrz : rp.size ≤ 1000 := by rw [hrp, strOfNums_size, List.length_replicate]; omega
      rw [← hrp] at HN HPd
      clear hrp
      have had := fun W0 => run_string_add_sum (P := Try.prog) W0 S rp (by omega)
      have hd : decide ((L : Int) ≤ (W : Int)) = decide (L ≤ W) := by simp
      go_wp2_with fail
      with_reducible refine (HN.out _).mono ?_
      rintro e w1 ⟨rfl, hk1⟩
      have HK1 := Lib.hid hk1
      clear hk1
      go_wp2
      go_ret2
      exact ⟨⟨S ++ rp, by rw [hf.out]; rfl, fun _ => HPd.out⟩, HK1.out⟩
def zero512 : List Int := List.replicate 512 0
set_option maxHeartbeats 1000000 in
theorem rzero16_any (bs : List Int) (w : World) (hb : AllB bs) : Calls Try.prog 18 #[.string (strOfNums bs)] w fun e w' => e = .returned (.bool (bs == zero512)) ∧ Kept NoB w w' := by
  have HN := Lib.hid (fun W0 => rnoughts_any 512 W0 (by omega) (by omega))
  have he := str_eq hb (allB_rep 512)
  have HE : Hid (((strOfNums bs).toList == (strOfNums (List.replicate 512 0)).toList) = (bs == zero512)) := Lib.hid he
  obtain ⟨r, hr⟩ : ∃ r, r = (bs == zero512) := ⟨_, rfl⟩
  rw [← hr] at HE ⊢
  have HN2 : Hid (∀ W0, Calls Try.prog 31 #[.int .i64 512] W0 fun e w' => e = .returned (.string (strOfNums (List.replicate 512 0))) ∧ Kept NoB W0 w') := Lib.hid (fun W0 => HN.out W0)
  obtain ⟨z, hz⟩ : ∃ z, z = strOfNums (List.replicate 512 0) := ⟨_, rfl⟩
  rw [← hz] at HN2 HE
  obtain ⟨S, hS⟩ : ∃ S, S = strOfNums bs := ⟨_, rfl⟩
  rw [← hS] at HE ⊢
  have hE := HE.out
  clear hr hz hS he HN hb
  go_enter Try.func18, Try.ntmps18
  go_wp2_with fail
  with_reducible refine (HN2.out _).mono ?_
  rintro e w1 ⟨rfl, hk1⟩
  have HK1 := Lib.hid hk1
  clear hk1
  go_wp2
  go_ret
  exact ⟨by first | rfl | (rw [hE]; rfl), HK1.out⟩
end Go.Proofs.Ytnhfbpikfkncpaa
