/-
  num: readWide, readOctal.
-/
import Derived.Test.YtnhfbpikfkncpaaNumC
import Derived.Deep.CutBlock
namespace Go.Proofs.Ytnhfbpikfkncpaa
open Go.RowKit
set_option linter.unusedVariables false
set_option linter.unusedSimpArgs false

theorem i64_or8 (n x : Int) (hn : -36028797018963968 ≤ n ∧ n ≤ 36028797018963967) (hx : 0 ≤ x ∧ x < 256) : bits .or .i64 (n * 256) x = n * 256 + x := by
  show IntKind.i64.wrap ((BitVec.ofInt 64 (n * 256) ||| BitVec.ofInt 64 x).toNat : Int) = _
  obtain ⟨m, hm⟩ : ∃ m : Nat, (m : Int) = n % 72057594037927936 := ⟨(n % 72057594037927936).toNat, Int.toNat_of_nonneg (Int.emod_nonneg _ (by decide))⟩
  have h1 : (BitVec.ofInt 64 (n * 256)).toNat = m * 2 ^ 8 := by rw [BitVec.toNat_ofInt]; omega
  have h2 : (BitVec.ofInt 64 x).toNat = x.toNat := by rw [BitVec.toNat_ofInt]; omega
  rw [BitVec.toNat_or, h1, h2, Nat.or_comm, or_shift _ _ 8 (by omega)]
  rw [IntKind.wrap_i64]
  omega
theorem i64_or3 (n x : Int) (hn : 0 ≤ n ∧ n ≤ 1152921504606846975) (hx : 0 ≤ x ∧ x < 8) : bits .or .i64 (n * 8) x = n * 8 + x := by
  show IntKind.i64.wrap ((BitVec.ofInt 64 (n * 8) ||| BitVec.ofInt 64 x).toNat : Int) = _
  obtain ⟨m, rfl⟩ : ∃ m : Nat, n = (m : Int) := ⟨n.toNat, (Int.toNat_of_nonneg hn.1).symm⟩
  have h1 : (BitVec.ofInt 64 ((m : Int) * 8)).toNat = m * 2 ^ 3 := by rw [BitVec.toNat_ofInt]; omega
  have h2 : (BitVec.ofInt 64 x).toNat = x.toNat := by rw [BitVec.toNat_ofInt]; omega
  rw [BitVec.toNat_or, h1, h2, Nat.or_comm, or_shift _ _ 3 (by omega)]
  rw [IntKind.wrap_i64]
  omega

/-- What the bytes behind a mark read as. -/
def rdW : List Int → Int → Int × Bool
  | [], n => (n, true)
  | b :: r, n => if n > 36028797018963967 ∨ n < -36028797018963968 then (0, false) else rdW r (n * 256 + b)
theorem drop_getDI (bs : List Int) (j : Nat) (hj : j < bs.length) : bs.drop j = bs.getD j 0 :: bs.drop (j + 1) := by
  rw [List.drop_eq_getElem_cons hj]; simp [List.getD, hj]

set_option maxRecDepth 20000 in
set_option maxHeartbeats 2000000 in
theorem readWide_any (ao : Option Addr) (cap len : Nat) (bs : List Int) (n0 : Int) (w : World) (hr : Reads w ao bs) (hb : AllB bs) (hlen : bs.length = len) (hm : len ≤ 1000) (hn : n0 = 0 ∨ n0 = -1) :
    Calls Try.prog 38 #[.slice ao len cap, .int .i64 n0] w fun e w' => e = .returned (.tuple #[.int .i64 (rdW bs n0).1, .bool (rdW bs n0).2]) ∧ w = w' := by
  obtain ⟨⟨rv, rq⟩, hR⟩ : ∃ R, R = rdW bs n0 := ⟨_, rfl⟩
  rw [← hR]
  have HRe := Lib.hid hR; have HRd := Lib.hid hr; have HB := Lib.hid hb; have HLen := Lib.hid hlen
  clear hR hr hb hlen
  go_enter Try.func38, Try.ntmps38
  go_wp2
  go_loopw [1, 10] (fun v1 v10 wr => ∃ (j : Nat) (x : Int), j ≤ len ∧ v1 = .int .i64 x ∧ v10 = .int .i64 j ∧ Hid (rdW (bs.drop j) x = (rv, rq)) ∧ -9223372036854775808 ≤ x ∧ x ≤ 9223372036854775807 ∧ w = wr) (fun _ v10 _ => len - (intOf v10).toNat)
  case atStart => exact ⟨0, n0, by omega, rfl, rfl, by rw [List.drop_zero]; exact HRe.out.symm, by omega, by omega, rfl⟩
  case round =>
    obtain ⟨j, x, hj, rfl, rfl, HX, hx1, hx2, rfl⟩ := hrel
    by_cases hlt : (j : Int) < len
    · have hjl : j < bs.length := by have := HLen.out; omega
      obtain ⟨b, off, rfl, _, hc⟩ := HRd.out.at (by omega)
      have hcj := hc j hjl
      have hz := AllB.getD HB.out j
      have hd := HX.out
      rw [drop_getDI bs j hjl] at hd
      unfold rdW at hd
      generalize bs.getD j 0 = z at hcj hz hd
      clear hc hjl HX
      by_cases hov : x > 36028797018963967 ∨ x < -36028797018963968
      · rw [if_pos hov] at hd
        simp only [Prod.mk.injEq] at hd
        obtain ⟨rfl, rfl⟩ := hd
        rcases hov with h | h
        · have h' : (36028797018963967 : Int) < x := h
          go_wp2
          go_ret2
          exact ⟨rfl, rfl⟩
        · have h' : ¬ (36028797018963967 : Int) < x := by omega
          go_wp2
          go_ret2
          exact ⟨rfl, rfl⟩
      · rw [if_neg hov] at hd
        have HD := Lib.hid hd
        have h1 : ¬ (36028797018963967 : Int) < x := by omega
        have h2 : ¬ x < (-36028797018963968 : Int) := by omega
        have hor := i64_or8 x z (by omega) hz
        have hw8 : IntKind.i64.wrap (x * 256) = x * 256 := IntWalk.i64_in _ (by omega)
        have hnb : -9223372036854775808 ≤ x * 256 + z ∧ x * 256 + z ≤ 9223372036854775807 := by omega
        clear hov hd
        go_wp2
        go_roundw
        case rel => exact ⟨j + 1, _, by omega, rfl, by go_num, HD, hnb.1, hnb.2, trivial⟩
        case measure => simp [intOf]; omega
    · have hjl : bs.drop j = [] := List.drop_of_length_le (by have := HLen.out; omega)
      have hd := HX.out
      rw [hjl] at hd
      unfold rdW at hd
      simp only [Prod.mk.injEq] at hd
      obtain ⟨rfl, rfl⟩ := hd
      clear hjl
      go_wp2
      go_ret2
      exact ⟨rfl, rfl⟩

/-- A row of bytes that is read from where it begins. -/
def RdS (w : World) (v : Value) (xs : List Int) : Prop :=
  ∃ ao n cap, v = .slice ao n cap ∧ Hid (n = xs.length) ∧ Hid (Reads w ao xs) ∧ n ≤ cap ∧ cap ≤ 9223372036854775807
theorem RdS.tail {w : World} {b off n cap : Nat} {z : Int} {r : List Int} (h : Hid (Reads w (some ⟨b, off, none⟩) (z :: r))) (hn : Hid (n = (z :: r).length)) (h1 : n ≤ cap) (h2 : cap ≤ 9223372036854775807) :
    (cap = 1 → RdS w (.slice (some ⟨b, off, none⟩) 0 0) r) ∧ (RdS w (.slice (some ⟨b, off + 1, none⟩) (n - 1) (cap - 1)) r) := by
  have hl : n = r.length + 1 := hn.out
  refine ⟨fun hc => ⟨_, 0, 0, rfl, (show 0 = r.length by omega), ?_, Nat.le_refl _, by omega⟩, ⟨_, n - 1, cap - 1, rfl, (show n - 1 = r.length by omega), ?_, by omega, by omega⟩⟩
  · have hr : r = [] := by cases r with | nil => rfl | cons _ _ => simp at hl; omega
    subst hr
    exact reads_empty
  · have := reads_drop 1 h.out
    rw [addr_add] at this
    exact this
theorem spOff_sp (r : List Int) : spOff (32 :: r) = spOff r := by simp [spOff]
theorem spOff_no {z : Int} {r : List Int} (h : z ≠ 32) : spOff (z :: r) = z :: r := by simp [spOff, h]
theorem rdD_yes {z : Int} {r : List Int} {n : Nat} (h : 48 ≤ z ∧ z ≤ 55) : rdD (z :: r) n = rdD r (8 * n + (z - 48).toNat) := by simp [rdD, h]
theorem rdD_no {z : Int} {r : List Int} {n : Nat} (h : ¬ (48 ≤ z ∧ z ≤ 55)) : rdD (z :: r) n = (n, z :: r) := by rw [rdD, if_neg h]
def rdO (bs : List Int) : Int × Bool := if tailOk (rdD (spOff bs) 0).2 = true then ((rdD (spOff bs) 0).1, true) else (0, false)

set_option maxRecDepth 20000 in
set_option maxHeartbeats 4000000 in
theorem readOctal_any (ao : Option Addr) (cap len : Nat) (bs : List Int) (w : World) (hr : Reads w ao bs) (hb : AllB bs) (hlen : bs.length = len) (hm : len ≤ 12) (hlc : len ≤ cap) (hcm : cap ≤ 9223372036854775807) :
    Calls Try.prog 39 #[.slice ao len cap] w fun e w' => e = .returned (.tuple #[.int .i64 (rdO bs).1, .bool (rdO bs).2]) ∧ w = w' := by
  have HRd := Lib.hid hr; have HB := Lib.hid hb; have HLen := Lib.hid hlen
  clear hr hb hlen
  go_enter Try.func39, Try.ntmps39
  go_upto_block 0 with fail
  go_cut [0] from 7 to 17 (fun v wx => w = wx ∧ RdS w v (spOff bs) ∧ Hid (AllB (spOff bs)) ∧ Hid ((spOff bs).length ≤ 12))
  case first =>
    go_wp2_with fail
    go_loopw [0] (fun v wr => w = wr ∧ ∃ xs, RdS w v xs ∧ Hid (spOff xs = spOff bs) ∧ Hid (AllB xs) ∧ Hid (xs.length ≤ 12)) (fun v _ => match v with | .slice _ n _ => n | _ => 0)
    case atStart => exact ⟨rfl, bs, ⟨ao, len, cap, rfl, HLen.out.symm, HRd.out, hlc, hcm⟩, rfl, HB.out, (show bs.length ≤ 12 by have := HLen.out; omega)⟩
    case round =>
      obtain ⟨rfl, xs, ⟨ax, n, cx, rfl, HN, HX, hnc, hcx⟩, HS, HAx, HL⟩ := hrel
      cases xs with
      | nil =>
        have hn0 : n = 0 := HN.out
        subst hn0
        go_wp2
        go_meet
        exact ⟨rfl, ⟨ax, 0, cx, rfl, (by rw [← HS.out]; exact HN.out), (by rw [← HS.out]; exact HX.out), hnc, hcx⟩, (by rw [← HS.out]; exact HAx.out), (by rw [← HS.out]; exact HL.out)⟩
      | cons z r =>
        obtain ⟨b, off, rfl, _, hc⟩ := HX.out.at (by simp)
        have hc0 := hc 0 (by simp)
        rw [Nat.add_zero] at hc0
        simp only [List.getD_cons_zero] at hc0
        have hn1 : 0 < n := by have := HN.out; simp at this; omega
        have htl := RdS.tail HX HN hnc hcx
        clear hc
        by_cases hz : z = 32
        · subst hz
          have hs : spOff r = spOff bs := by have := HS.out; rw [spOff_sp] at this; exact this
          have HS2 := Lib.hid hs
          have HA2 : Hid (AllB r) := fun b hb => HAx.out b (List.mem_cons_of_mem _ hb)
          have HL2 : Hid (r.length ≤ 12) := by have := HL.out; simp at this; exact (by omega : r.length ≤ 12)
          clear hs
          by_cases hc1 : cx = 1
          · have hn1' : n = 1 := by omega
            have ht := htl.1 hc1
            subst hc1 hn1'
            have HT := Lib.hid ht
            clear ht htl
            go_wp2
            go_roundw
            case rel => exact ⟨trivial, r, HT.out, HS2.out, HA2, HL2⟩
            case measure => simp
          · have HT := Lib.hid htl.2
            clear htl
            go_wp2
            go_roundw
            case rel => exact ⟨trivial, r, HT.out, HS2.out, HA2, HL2⟩
            case measure => simp; omega
        · have hz' : (z == 32) = false := by simp; exact hz
          have hs : z :: r = spOff bs := by have := HS.out; rw [spOff_no hz] at this; exact this
          have HS2 := Lib.hid hs
          clear hs htl
          go_wp2
          go_meet
          exact ⟨rfl, ⟨_, n, cx, rfl, (by rw [← HS2.out]; exact HN.out), (by rw [← HS2.out]; exact HX.out), hnc, hcx⟩, (by rw [← HS2.out]; exact HAx.out), (by rw [← HS2.out]; exact HL.out)⟩
  case rest =>
  obtain ⟨rfl, hrd, HA1, HL1⟩ := hcut
  have hro : rdO bs = if tailOk (rdD (spOff bs) 0).2 = true then (((rdD (spOff bs) 0).1 : Int), true) else (0, false) := rfl
  generalize spOff bs = xs0 at hrd HA1 HL1 hro
  obtain ⟨⟨D, ys0⟩, hD⟩ : ∃ R, R = rdD xs0 0 := ⟨_, rfl⟩
  rw [← hD] at hro
  have HRo := Lib.hid hro; have HD := Lib.hid hD; have HRd0 := Lib.hid hrd
  clear hro hD hrd
  obtain ⟨ax, n, cx, rfl, HN, HX, hnc, hcx⟩ := HRd0.out
  go_upto_block 2 with fail
  go_cut [0, 4] from 18 to 44 (fun v v4 wx => w = wx ∧ RdS w v ys0 ∧ v4 = .int .i64 (D : Int) ∧ Hid (AllB ys0) ∧ Hid (ys0.length ≤ 12))
  case first =>
    go_wp2_with fail
    go_loopw [0, 4] (fun v v4 wr => w = wr ∧ ∃ (ys : List Int) (x k : Nat), RdS w v ys ∧ v4 = .int .i64 (x : Int) ∧ Hid (rdD ys x = (D, ys0)) ∧ Hid (AllB ys) ∧ Hid (k + ys.length ≤ 12) ∧ Hid (x < 8 ^ k)) (fun v _ _ => match v with | .slice _ n _ => n | _ => 0)
    case atStart => exact ⟨rfl, xs0, 0, 0, HRd0.out, rfl, HD.out.symm, HA1, (by have := HL1.out; exact (by omega : 0 + xs0.length ≤ 12)), (by decide : 0 < 8 ^ 0)⟩
    case round =>
      clear HN HX hnc hcx HRd0
      obtain ⟨rfl, ys, x, k, ⟨ay, m, cy, rfl, HM, HY, hmc, hcy⟩, rfl, HE, HAy, HKl, HXk⟩ := hrel
      cases ys with
      | nil =>
        have hm0 : m = 0 := HM.out
        subst hm0
        have he := HE.out
        simp only [rdD, Prod.mk.injEq] at he
        obtain ⟨rfl, rfl⟩ := he
        go_wp2
        go_meet
        exact ⟨rfl, ⟨ay, 0, cy, rfl, HM, HY, hmc, hcy⟩, rfl, HAy, (by decide : ([] : List Int).length ≤ 12)⟩
      | cons z r =>
        obtain ⟨b, off, rfl, _, hc⟩ := HY.out.at (by simp)
        have hc0 := hc 0 (by simp)
        rw [Nat.add_zero] at hc0
        simp only [List.getD_cons_zero] at hc0
        have hm1 : 0 < m := by have := HM.out; simp at this; omega
        have htl := RdS.tail HY HM hmc hcy
        have hzb : 0 ≤ z ∧ z < 256 := HAy.out z List.mem_cons_self
        clear hc
        by_cases hz : 48 ≤ z ∧ z ≤ 55
        · have he := HE.out
          rw [rdD_yes hz] at he
          have HE2 := Lib.hid he
          have HA2 : Hid (AllB r) := fun b hb => HAy.out b (List.mem_cons_of_mem _ hb)
          have HKl2 : Hid (k + 1 + r.length ≤ 12) := by have := HKl.out; simp at this; exact (by omega : k + 1 + r.length ≤ 12)
          have hxk : x < 8589934592 := by
            have h1 := HXk.out
            have h2 : k ≤ 11 := by have := HKl.out; simp at this; omega
            have h3 : 8 ^ k ≤ 8 ^ 11 := Nat.pow_le_pow_right (by decide) h2
            omega
          have HXk2 : Hid (8 * x + (z - 48).toNat < 8 ^ (k + 1)) := by have := HXk.out; rw [Nat.pow_succ]; exact (by omega : 8 * x + (z - 48).toNat < 8 ^ k * 8)
          have hor := i64_or3 (x : Int) (z - 48) (by omega) (by omega)
          have hsum : (x : Int) * 8 + (z - 48) = ((8 * x + (z - 48).toNat : Nat) : Int) := by omega
          rw [hsum] at hor
          have hw8 : IntKind.i64.wrap ((x : Int) * 8) = (x : Int) * 8 := IntWalk.i64_in _ (by omega)
          have hov : ¬ (1152921504606846975 : Int) < x := by omega
          generalize 8 * x + (z - 48).toNat = x2 at HE2 HXk2 hor
          clear he hsum
          by_cases hc1 : cy = 1
          · have hm1' : m = 1 := by omega
            have ht := htl.1 hc1
            subst hc1 hm1'
            have HT := Lib.hid ht
            clear ht htl
            go_wp2
            go_roundw
            case rel => exact ⟨trivial, r, x2, k + 1, HT.out, rfl, HE2.out, HA2, HKl2, HXk2⟩
            case measure => simp
          · have HT := Lib.hid htl.2
            clear htl
            go_wp2
            go_roundw
            case rel => exact ⟨trivial, r, x2, k + 1, HT.out, rfl, HE2.out, HA2, HKl2, HXk2⟩
            case measure => simp; omega
        · have he := HE.out
          rw [rdD_no hz] at he
          simp only [Prod.mk.injEq] at he
          obtain ⟨rfl, rfl⟩ := he
          have HKl3 : Hid ((z :: r).length ≤ 12) := (by have := HKl.out; omega : (z :: r).length ≤ 12)
          clear htl
          have hz2 : z < 48 ∨ (48 ≤ z ∧ ¬ z ≤ 55) := by omega
          clear hz
          rcases hz2 with h1 | ⟨h1, h2⟩
          all_goals
            go_wp2
            go_meet
            exact ⟨rfl, ⟨_, m, cy, rfl, HM, HY, hmc, hcy⟩, rfl, HAy, HKl3⟩
  case rest =>
  clear HN HX hnc hcx HRd0
  obtain ⟨rfl, ⟨ay, m, cy, rfl, HM, HY, hmc, hcy⟩, rfl, HAy, HLy⟩ := hcut
  have hm12 : m ≤ 12 := by have h1 := HM.out; have h2 := HLy.out; omega
  go_wp2
  go_loopw [47] (fun v wr => w = wr ∧ ∃ j : Nat, j ≤ m ∧ v = .int .i64 j ∧ Hid (tailOk (ys0.drop j) = tailOk ys0)) (fun v _ => m - (intOf v).toNat)
  case atStart => exact ⟨rfl, 0, by omega, rfl, (by rw [List.drop_zero]; rfl)⟩
  case round =>
    obtain ⟨rfl, j, hj, rfl, HT⟩ := hrel
    by_cases hlt : (j : Int) < m
    · have hjl : j < ys0.length := by have := HM.out; omega
      obtain ⟨b, off, rfl, _, hc⟩ := HY.out.at (by omega)
      have hcj := hc j hjl
      have hz := AllB.getD HAy.out j
      have hd := HT.out
      rw [drop_getDI ys0 j hjl] at hd
      generalize ys0.getD j 0 = z at hcj hz hd
      clear hc hjl HT
      by_cases h0 : z = 0
      · subst h0
        have hd2 : tailOk (ys0.drop (j + 1)) = tailOk ys0 := by rw [← hd]; simp [tailOk]
        have HD2 := Lib.hid hd2
        clear hd hd2
        go_wp2
        go_roundw
        case rel => exact ⟨trivial, j + 1, by omega, by go_num, HD2.out⟩
        case measure => simp [intOf]; omega
      · by_cases h32 : z = 32
        · subst h32
          have hd2 : tailOk (ys0.drop (j + 1)) = tailOk ys0 := by rw [← hd]; simp [tailOk]
          have HD2 := Lib.hid hd2
          clear hd hd2 h0
          go_wp2
          go_roundw
          case rel => exact ⟨trivial, j + 1, by omega, by go_num, HD2.out⟩
          case measure => simp [intOf]; omega
        · have hf : tailOk ys0 = false := by rw [← hd]; simp [tailOk, h0, h32]
          have hro := HRo.out
          rw [hf, if_neg (by decide)] at hro
          have HR2 := Lib.hid hro
          have h0' : (z != 0) = true := by simp; exact h0
          have h32' : (z != 32) = true := by simp; exact h32
          clear hd hf hro h0 h32
          go_wp2
          go_ret2
          exact ⟨by rw [HR2.out]; rfl, rfl⟩
    · have hjl : ys0.drop j = [] := List.drop_of_length_le (by have := HM.out; omega)
      have ht := HT.out
      rw [hjl] at ht
      have hro := HRo.out
      rw [← ht, if_pos (show tailOk [] = true from rfl)] at hro
      have HR2 := Lib.hid hro
      clear hjl ht hro
      go_wp2
      go_ret2
      exact ⟨by rw [HR2.out]; rfl, rfl⟩
end Go.Proofs.Ytnhfbpikfkncpaa
