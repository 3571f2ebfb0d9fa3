/-
  The document's ReadNum: what a field reads as.
-/
import Derived.Test.YtnhfbpikfkncpaaNumE
namespace Go.Proofs.Ytnhfbpikfkncpaa
open Go.RowKit
set_option linter.unusedVariables false
set_option linter.unusedSimpArgs false

theorem str_atI2 (bs : List Int) (h : AllB bs) (L : Nat) (hL : L < (strOfNums bs).size) : (((strOfNums bs)[L]).toNat : Int) = bs.getD L 0 := by
  have hl : L < bs.length := by rw [strOfNums_size] at hL; exact hL
  have hb := h _ (List.getElem_mem hl)
  show (((strOfNums bs).data[L]).toNat : Int) = _
  have e : (strOfNums bs).data[L] = UInt8.ofNat (bs[L]).toNat := by
    have h1 : (strOfNums bs).data.toList[L]'(by simpa [strOfNums_data] using hl) = UInt8.ofNat (bs[L]).toNat := by
      simp [strOfNums_data]
    simpa using h1
  rw [e]
  have : bs.getD L 0 = bs[L] := by simp [List.getD, hl]
  rw [this]
  simp
  omega

set_option maxRecDepth 20000 in
set_option maxHeartbeats 4000000 in
theorem rReadNum_any (bs : List Int) (w : World) (hb : AllB bs) (hm : bs.length ≤ 1000000) :
    Calls Try.prog 32 #[.string (strOfNums bs)] w fun e w' => e = .returned (.tuple #[.int .i64 (readS bs).1, .bool (readS bs).2]) ∧ w = w' := by
  obtain ⟨len, hlen⟩ : ∃ len, len = bs.length := ⟨_, rfl⟩
  have hz : (strOfNums bs).size = len := by rw [strOfNums_size, hlen]
  have hat : ∀ j (hj : j < (strOfNums bs).size), (((strOfNums bs)[j]).toNat : Int) = bs.getD j 0 := fun j hj => str_atI2 bs hb j hj
  have he : (strOfNums bs).toList.isEmpty = decide (len = 0) := by
    have e : (strOfNums bs).toList.length = len := by rw [ByteArray.toList_eq, ← hz]; rfl
    by_cases h : len = 0
    · rw [decide_eq_true h, List.isEmpty_iff]
      exact List.eq_nil_of_length_eq_zero (e.trans h)
    · rw [decide_eq_false h]
      cases hl : (strOfNums bs).toList with
      | nil => rw [hl] at e; exact absurd e.symm h
      | cons _ _ => rfl
  have HAt := Lib.hid hat; have HB := Lib.hid hb; have HLen := Lib.hid hlen
  generalize strOfNums bs = st at hz hat he HAt ⊢
  clear hat hb hlen
  by_cases h1 : len < 1
  · have hs := readS_out (bs := bs) (.inl (by have := HLen.out; omega))
    have HS := Lib.hid hs
    have hl0 : len = 0 := by omega
    subst hl0
    rw [decide_eq_true rfl] at he
    clear hs h1
    go_enter Try.func32, Try.ntmps32
    go_wp2
    go_ret2
    exact ⟨by rw [HS.out]; rfl, rfl⟩
  · rw [decide_eq_false (by omega)] at he
    by_cases h12 : 12 < len
    · have hs := readS_out (bs := bs) (.inr (by have := HLen.out; omega))
      have HS := Lib.hid hs
      clear hs
      go_enter Try.func32, Try.ntmps32
      go_wp2
      go_ret2
      exact ⟨by rw [HS.out]; rfl, rfl⟩
    · have hs := readS_in (bs := bs) (by have := HLen.out; omega)
      have hj0 : 0 < st.size := by omega
      have hz0 := HAt.out 0 hj0
      have hzb := AllB.getD HB.out 0
      generalize bs.getD 0 0 = z at hz0 hzb hs
      by_cases hwd : z = 128 ∨ z = 255
      · obtain ⟨n0, hn0, hrd⟩ : ∃ n0 : Int, ((z = 128 ∧ n0 = 0) ∨ (z = 255 ∧ n0 = -1)) ∧ readS bs = rdW (bs.drop 1) n0 := by
          rcases hwd with h | h
          · exact ⟨0, .inl ⟨h, rfl⟩, by rw [hs, if_pos h]⟩
          · exact ⟨-1, .inr ⟨h, rfl⟩, by rw [hs, if_neg (by omega), if_pos h]⟩
        obtain ⟨⟨rv, rq⟩, hR⟩ : ∃ R, R = readS bs := ⟨_, rfl⟩
        rw [← hR] at hrd ⊢
        have HRe := Lib.hid hrd
        clear hs hR hrd hwd
        rcases hn0 with ⟨rfl, rfl⟩ | ⟨rfl, rfl⟩
        all_goals
          go_enter Try.func32, Try.ntmps32
          go_wp2
          go_loopw [4, 5] (fun v4 v5 wr => ∃ (j : Nat) (x : Int), 1 ≤ j ∧ j ≤ len ∧ v4 = .int .i64 x ∧ v5 = .int .i64 j ∧ Hid (rdW (bs.drop j) x = (rv, rq)) ∧ -9223372036854775808 ≤ x ∧ x ≤ 9223372036854775807 ∧ w = wr) (fun _ v5 _ => len - (intOf v5).toNat)
          case atStart => exact ⟨1, _, by omega, by omega, rfl, rfl, HRe.out.symm, by omega, by omega, rfl⟩
          case round =>
            obtain ⟨j, x, hj1, hj, rfl, rfl, HX, hx1, hx2, rfl⟩ := hrel
            by_cases hlt : (j : Int) < len
            · have hjl : j < bs.length := by have := HLen.out; omega
              have hjs : j < st.size := by omega
              have hcj := HAt.out j hjs
              have hzj := AllB.getD HB.out j
              have hd := HX.out
              rw [drop_getDI bs j hjl] at hd
              unfold rdW at hd
              generalize bs.getD j 0 = y at hcj hzj hd
              clear hjl HX
              by_cases hov : x > 36028797018963967 ∨ x < -36028797018963968
              · rw [if_pos hov] at hd
                simp only [Prod.mk.injEq] at hd
                obtain ⟨rfl, rfl⟩ := hd
                rcases hov with h | h
                · have h' : (36028797018963967 : Int) < x := h
                  go_wp2
                  go_ret2
                  exact ⟨rfl, rfl⟩
                · have h' : ¬ (36028797018963967 : Int) < x := by omega
                  go_wp2
                  go_ret2
                  exact ⟨rfl, rfl⟩
              · rw [if_neg hov] at hd
                have HD := Lib.hid hd
                have g1 : ¬ (36028797018963967 : Int) < x := by omega
                have g2 : ¬ x < (-36028797018963968 : Int) := by omega
                have hor := i64_or8 x y (by omega) hzj
                have hw8 : IntKind.i64.wrap (x * 256) = x * 256 := IntWalk.i64_in _ (by omega)
                have hnb : -9223372036854775808 ≤ x * 256 + y ∧ x * 256 + y ≤ 9223372036854775807 := by omega
                clear hov hd
                go_wp2
                go_roundw
                case rel => exact ⟨j + 1, _, by omega, by omega, rfl, by go_num, HD, hnb.1, hnb.2, trivial⟩
                case measure => simp [intOf]; omega
            · have hjl : bs.drop j = [] := List.drop_of_length_le (by have := HLen.out; omega)
              have hd := HX.out
              rw [hjl] at hd
              unfold rdW at hd
              simp only [Prod.mk.injEq] at hd
              obtain ⟨rfl, rfl⟩ := hd
              clear hjl
              go_wp2
              go_ret2
              exact ⟨rfl, rfl⟩
      · have hn1 : z ≠ 128 := fun h => hwd (.inl h)
        have hn2 : z ≠ 255 := fun h => hwd (.inr h)
        rw [if_neg hn1, if_neg hn2] at hs
        have g1 : (z == 128) = false := by simp; exact hn1
        have g2 : (z == 255) = false := by simp; exact hn2
        obtain ⟨⟨D, ys0⟩, hD⟩ : ∃ R, R = rdD (spOff bs) 0 := ⟨_, rfl⟩
        have hro : rdO bs = if tailOk ys0 = true then ((D : Int), true) else (0, false) := by
          unfold rdO; rw [← hD]
        rw [hro] at hs
        have HS := Lib.hid hs; have HD := Lib.hid hD
        clear hs hro hD hwd hn1 hn2
        go_enter Try.func32, Try.ntmps32
        go_upto_block 2 with fail
        go_cut [6] from 46 to 57 (fun v6 wx => w = wx ∧ ∃ j : Nat, j ≤ len ∧ v6 = .int .i64 j ∧ Hid (bs.drop j = spOff bs))
        case first =>
          go_wp2_with fail
          go_loopw [6] (fun v6 wr => w = wr ∧ ∃ j : Nat, j ≤ len ∧ v6 = .int .i64 j ∧ Hid (spOff (bs.drop j) = spOff bs)) (fun v6 _ => len - (intOf v6).toNat)
          case atStart => exact ⟨rfl, 0, by omega, rfl, (by rw [List.drop_zero]; rfl)⟩
          case round =>
            clear hz0 g1 g2 hzb
            obtain ⟨rfl, j, hj, rfl, HT⟩ := hrel
            by_cases hlt : (j : Int) < len
            · have hjl : j < bs.length := by have := HLen.out; omega
              have hjs : j < st.size := by omega
              have hcj := HAt.out j hjs
              have hzj := AllB.getD HB.out j
              have hd := HT.out
              have hdr := drop_getDI bs j hjl
              rw [hdr] at hd
              generalize bs.getD j 0 = y at hcj hzj hd hdr
              by_cases hy : y = 32
              · subst hy
                rw [spOff_sp] at hd
                have HD2 := Lib.hid hd
                clear hd hdr
                go_wp2
                go_roundw
                case rel => exact ⟨trivial, j + 1, by omega, by go_num, HD2.out⟩
                case measure => simp [intOf]; omega
              · rw [spOff_no hy] at hd
                have HD2 := Lib.hid (hdr.trans hd)
                have hy' : (y == 32) = false := by simp; exact hy
                clear hd hdr hy
                go_wp2
                go_meet
                exact ⟨rfl, j, by omega, rfl, HD2.out⟩
            · have hjl : bs.drop j = [] := List.drop_of_length_le (by have := HLen.out; omega)
              have hd := HT.out
              have HD2 : Hid (bs.drop j = spOff bs) := by rw [hjl] at hd; rw [← hd, hjl]; rfl
              clear hjl hd
              go_wp2
              go_meet
              exact ⟨rfl, j, by omega, rfl, HD2.out⟩
        case rest =>
        obtain ⟨rfl, j0, hj0l, rfl, HJ0⟩ := hcut
        clear hz0 g1 g2 hzb
        go_upto_block 4 with fail
        go_cut [6, 7] from 58 to 85 (fun v6 v7 wx => w = wx ∧ ∃ j : Nat, j ≤ len ∧ v6 = .int .i64 j ∧ v7 = .int .i64 (D : Int) ∧ Hid (bs.drop j = ys0))
        case first =>
          go_wp2_with fail
          go_loopw [6, 7] (fun v6 v7 wr => w = wr ∧ ∃ (j x k : Nat), j ≤ len ∧ v6 = .int .i64 j ∧ v7 = .int .i64 (x : Int) ∧ Hid (rdD (bs.drop j) x = (D, ys0)) ∧ Hid (k + (len - j) ≤ 12) ∧ Hid (x < 8 ^ k)) (fun v6 _ _ => len - (intOf v6).toNat)
          case atStart => exact ⟨rfl, j0, 0, 0, by omega, rfl, rfl, (by rw [HJ0.out]; exact HD.out.symm), (by exact (by omega : 0 + (len - j0) ≤ 12)), (by decide : 0 < 8 ^ 0)⟩
          case round =>
            clear HJ0 hj0l
            obtain ⟨rfl, j, x, k, hj, rfl, rfl, HE, HKl, HXk⟩ := hrel
            by_cases hlt : (j : Int) < len
            · have hjl : j < bs.length := by have := HLen.out; omega
              have hjs : j < st.size := by omega
              have hcj := HAt.out j hjs
              have hzj := AllB.getD HB.out j
              have hd := HE.out
              have hdr := drop_getDI bs j hjl
              rw [hdr] at hd
              generalize bs.getD j 0 = y at hcj hzj hd hdr
              by_cases hy : 48 ≤ y ∧ y ≤ 55
              · rw [rdD_yes hy] at hd
                have HE2 := Lib.hid hd
                have HKl2 : Hid (k + 1 + (len - (j + 1)) ≤ 12) := by have := HKl.out; exact (by omega : k + 1 + (len - (j + 1)) ≤ 12)
                have hxk : x < 8589934592 := by
                  have h1 := HXk.out
                  have h2 : k ≤ 11 := by have := HKl.out; omega
                  have h3 : 8 ^ k ≤ 8 ^ 11 := Nat.pow_le_pow_right (by decide) h2
                  omega
                have HXk2 : Hid (8 * x + (y - 48).toNat < 8 ^ (k + 1)) := by have := HXk.out; rw [Nat.pow_succ]; exact (by omega : 8 * x + (y - 48).toNat < 8 ^ k * 8)
                have hor := i64_or3 (x : Int) (y - 48) (by omega) (by omega)
                have hsum : (x : Int) * 8 + (y - 48) = ((8 * x + (y - 48).toNat : Nat) : Int) := by omega
                rw [hsum] at hor
                have hw8 : IntKind.i64.wrap ((x : Int) * 8) = (x : Int) * 8 := IntWalk.i64_in _ (by omega)
                have hov : ¬ (1152921504606846975 : Int) < x := by omega
                generalize 8 * x + (y - 48).toNat = x2 at HE2 HXk2 hor
                clear hd hdr hsum
                go_wp2
                go_roundw
                case rel => exact ⟨trivial, j + 1, x2, k + 1, by omega, by go_num, rfl, HE2.out, HKl2.out, HXk2.out⟩
                case measure => simp [intOf]; omega
              · rw [rdD_no hy] at hd
                simp only [Prod.mk.injEq] at hd
                obtain ⟨rfl, hys⟩ := hd
                have HY := Lib.hid (hdr.trans hys)
                clear hdr hys
                have hz2 : y < 48 ∨ (48 ≤ y ∧ ¬ y ≤ 55) := by omega
                clear hy
                rcases hz2 with h1 | ⟨h1, h2⟩
                all_goals
                  go_wp2
                  go_meet
                  exact ⟨rfl, j, by omega, rfl, rfl, HY.out⟩
            · have hjl : bs.drop j = [] := List.drop_of_length_le (by have := HLen.out; omega)
              have hd := HE.out
              rw [hjl] at hd
              simp only [rdD, Prod.mk.injEq] at hd
              obtain ⟨rfl, rfl⟩ := hd
              have HJ := Lib.hid hjl
              clear hjl
              go_wp2
              go_meet
              exact ⟨rfl, j, by omega, rfl, rfl, HJ.out⟩
        case rest =>
        clear HJ0 hj0l
        obtain ⟨rfl, j1, hj1, rfl, rfl, HJ1⟩ := hcut
        go_wp2
        go_loopw [6] (fun v wr => w = wr ∧ ∃ j : Nat, j ≤ len ∧ v = .int .i64 j ∧ Hid (tailOk (bs.drop j) = tailOk ys0)) (fun v _ => len - (intOf v).toNat)
        case atStart => exact ⟨rfl, j1, by omega, rfl, (by rw [HJ1.out]; rfl)⟩
        case round =>
          clear HJ1 hj1
          obtain ⟨rfl, j, hj, rfl, HT⟩ := hrel
          by_cases hlt : (j : Int) < len
          · have hjl : j < bs.length := by have := HLen.out; omega
            have hjs : j < st.size := by omega
            have hcj := HAt.out j hjs
            have hzj := AllB.getD HB.out j
            have hd := HT.out
            rw [drop_getDI bs j hjl] at hd
            generalize bs.getD j 0 = y at hcj hzj hd
            clear hjl HT
            by_cases h0 : y = 0
            · subst h0
              have hd2 : tailOk (bs.drop (j + 1)) = tailOk ys0 := by rw [← hd]; simp [tailOk]
              have HD2 := Lib.hid hd2
              clear hd hd2
              go_wp2
              go_roundw
              case rel => exact ⟨trivial, j + 1, by omega, by go_num, HD2.out⟩
              case measure => simp [intOf]; omega
            · by_cases h32 : y = 32
              · subst h32
                have hd2 : tailOk (bs.drop (j + 1)) = tailOk ys0 := by rw [← hd]; simp [tailOk]
                have HD2 := Lib.hid hd2
                clear hd hd2 h0
                go_wp2
                go_roundw
                case rel => exact ⟨trivial, j + 1, by omega, by go_num, HD2.out⟩
                case measure => simp [intOf]; omega
              · have hf : tailOk ys0 = false := by rw [← hd]; simp [tailOk, h0, h32]
                have hro := HS.out
                rw [hf, if_neg (by decide)] at hro
                have HR2 := Lib.hid hro
                have h0' : (y != 0) = true := by simp; exact h0
                have h32' : (y != 32) = true := by simp; exact h32
                clear hd hf hro h0 h32
                go_wp2
                go_ret2
                exact ⟨by rw [HR2.out]; rfl, rfl⟩
          · have hjl : bs.drop j = [] := List.drop_of_length_le (by have := HLen.out; omega)
            have ht := HT.out
            have hro := HS.out
            rw [hjl] at ht
            rw [← ht, if_pos (show tailOk [] = true from rfl)] at hro
            have HR2 := Lib.hid hro
            clear hjl ht hro
            go_wp2
            go_ret2
            exact ⟨by rw [HR2.out]; rfl, rfl⟩
end Go.Proofs.Ytnhfbpikfkncpaa
