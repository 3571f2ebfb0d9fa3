/-
  CrcBits: one bit that is turned, or two, is another check.
-/
import Derived.Test.YtffoigacpnlkgaaCrcBN
import Derived.Test.YtffoigacpnlkgaaMask
import Derived.Test.YtffoigacpnlkgaaCrcS
import Derived.BigRegion
namespace Go.Proofs.Ytffoigacpnlkgaa
open Go.RowKit
set_option linter.unusedVariables false

/-- Bytes with bit p turned, as the Go text turns it. -/
def turnI (bs : List Int) (p : Nat) : List Int := bs.set (p / 8) (bits .xor .u8 (bs.getD (p / 8) 0) (2 ^ (p % 8) % 256))
theorem turnI_length (bs : List Int) (p : Nat) : (turnI bs p).length = bs.length := List.length_set
theorem turnI_nats (bs : List Int) (h : AllB bs) (p : Nat) (hp : p < 8 * bs.length) : nats (turnI bs p) = turned (nats bs) p ∧ AllB (turnI bs p) := by
  have hg := h.getD (p / 8)
  have hb : 2 ^ (p % 8) < 256 := Nat.lt_of_lt_of_le (Nat.pow_lt_pow_right (by decide) (Nat.mod_lt p (by decide : 0 < 8))) (by decide)
  have hm2 : ((2 : Int) ^ (p % 8) % 256) = ((2 ^ (p % 8) : Nat) : Int) := by
    have e : ((2 : Int) ^ (p % 8)) = ((2 ^ (p % 8) : Nat) : Int) := by push_cast; rfl
    rw [e]
    generalize 2 ^ (p % 8) = y at hb ⊢
    omega
  have hx : bits .xor .u8 (bs.getD (p / 8) 0) (2 ^ (p % 8) % 256) = (((bs.getD (p / 8) 0).toNat ^^^ 2 ^ (p % 8) : Nat) : Int) := by
    have := u8_xor_nat (bs.getD (p / 8) 0).toNat (2 ^ (p % 8)) (by omega) hb
    rw [Int.toNat_of_nonneg hg.1] at this
    rw [← this, hm2]
  have hl : (nats bs).getD (p / 8) 0 = (bs.getD (p / 8) 0).toNat := by
    have hi : p / 8 < bs.length := by omega
    simp [nats, List.getD, hi]
  refine ⟨?_, ?_⟩
  · unfold turnI turned
    rw [hx, hl]
    simp [nats, List.map_set]
  · intro b hbm
    rcases List.mem_or_eq_of_mem_set hbm with h1 | h1
    · exact h b h1
    · rw [h1, hx]
      have := Nat.xor_lt_two_pow (n := 8) (show (bs.getD (p / 8) 0).toNat < 2 ^ 8 by omega) hb
      omega

theorem turn_row {w : World} {g cap len p : Nat} {bs : List Int} {z : Int} (h : w.ownsRow 0 5 1 (.slice (some ⟨g, 0, none⟩) len cap) len (bs.map (.int .u8))) (hz : bs.getD (p / 8) 0 = z) :
    (w.setCell ⟨g, p / 8, none⟩ (.int .u8 (bits .xor .u8 z (2 ^ (p % 8) % 256)))).drew.ownsRow 0 5 1 (.slice (some ⟨g, 0, none⟩) len cap) len ((turnI bs p).map (.int .u8)) := by
  have := (h.stored (p / 8) (.int .u8 (bits .xor .u8 z (2 ^ (p % 8) % 256)))).1
  unfold turnI
  rw [List.map_set, hz]
  exact this

set_option maxRecDepth 100000 in
set_option maxHeartbeats 4000000 in
theorem crcBits_walk (ao : Option Addr) (cap len : Nat) (bs : List Int) (i k : Int) (w : World) (hlen : bs.length = len) (hr : Reads w ao bs) (hb : AllB bs) (h0 : ao = none → cap = 0) (hlc : len ≤ cap) (hm : cap ≤ maxLen) :
    Calls Try.prog 11 #[.slice ao len cap, .int .i64 i, .int .i64 k] w fun e w' => e = .returned (.bool true) ∧ Below w.heap.size w w' := by
  unfold maxLen at hm
  have HLen := Lib.hid hlen; have HR := Lib.hid hr; have HB := Lib.hid hb; have H0 := Lib.hid h0
  clear hlen hr hb h0
  obtain ⟨i0, hi, hz0, hz1, hz2⟩ := info_parts info5
  go_enter Try.func11, Try.ntmps11
  go_wp2_with fail
  refine (newt_any _).mono ?_
  rintro e w1 ⟨T, rfl, hT, hTf, hk1⟩
  have HT1 := Lib.hid hT; have HK1 := Lib.hid hk1; have HB1 := Lib.hid (hk1.belowNo (Below.refl _ _)); have HTf := Lib.hid hTf
  clear hT hk1 hTf
  have hcase : ((len : Int) == 0) = true ∨ (((len : Int) == 0) = false ∧ (100 : Int) < len) ∨ (((len : Int) == 0) = false ∧ ¬ (100 : Int) < len) := by
    by_cases h1 : len = 0
    · exact .inl (by simp [h1])
    · by_cases h2 : 100 < len
      · exact .inr (.inl ⟨by simp; omega, by omega⟩)
      · exact .inr (.inr ⟨by simp; omega, by omega⟩)
  rcases hcase with h1 | ⟨h1, h2⟩ | ⟨h1, h2⟩
  · go_wp2_with fail
    refine (awake2 _).mono ?_
    rintro e w2 ⟨rfl, hb2⟩
    have hb3 := HB1.out.trans (hb2.mono HB1.out.size)
    go_wp2
    go_ret
    exact ⟨rfl, hb3⟩
  · go_wp2_with fail
    refine (awake2 _).mono ?_
    rintro e w2 ⟨rfl, hb2⟩
    have hb3 := HB1.out.trans (hb2.mono HB1.out.size)
    go_wp2
    go_ret
    exact ⟨rfl, hb3⟩
  · have hpos : 0 < len := by simp at h1; omega
    obtain ⟨x, rfl⟩ : ∃ x, ao = some x := by
      cases ao with
      | none => have := H0.out rfl; omega
      | some x => exact ⟨x, rfl⟩
    obtain ⟨p, hp⟩ : ∃ p : Nat, (p : Int) = i % 65536 % (8 * (len : Int)) := ⟨(i % 65536 % (8 * (len : Int))).toNat, Int.toNat_of_nonneg (Int.emod_nonneg _ (by omega))⟩
    obtain ⟨q, hq⟩ : ∃ q : Nat, (q : Int) = k % 65536 % (8 * (len : Int)) := ⟨(k % 65536 % (8 * (len : Int))).toNat, Int.toNat_of_nonneg (Int.emod_nonneg _ (by omega))⟩
    have hpl : (p : Int) < 8 * len := by rw [hp]; exact Int.emod_lt_of_pos _ (by omega)
    have hql : (q : Int) < 8 * len := by rw [hq]; exact Int.emod_lt_of_pos _ (by omega)
    have hmi := mask65535 i
    have hmk := mask65535 k
    have HP := Lib.hid hp; have HQ := Lib.hid hq
    clear hp hq
    go_upto_region 5 with fail
    go_cut [1, 2] from 33 to 40 (fun s t wx => s = .int .i64 p ∧ t = .int .i64 q ∧ ∃ n, wx = w1.drewN n)
    case first =>
      go_quiet (fail)
      go_wp2
      go_meet
      exact ⟨by rw [HP.out], by rw [HQ.out], _, rfl⟩
    case rest =>
      obtain ⟨rfl, rfl, nd, hw⟩ := hcut
      have hka : Kept NoB w1 wc := by rw [hw]; exact (Kept.refl _ _).drewN _
      clear hw hmi hmk
      have HKa := Lib.hid hka; clear hka
      have hP : p / 8 < len ∧ q / 8 < len := by omega
      have hRa : Reads wc (some x) bs := (HR.out.keptNo HK1.out).keptNo HKa.out
      have HRa := Lib.hid hRa; clear hRa
      go_wp2_with (at_builtin; refine wpList_app _ rfl _ _ 22 rfl 5 i0 (.int .u8 0) 1 1 Try.underlying22 hi hz0 hz1 hz2 rfl (by decide) _ 0 [] rfl (World.ownsRow_made wc #[] 0 (Nat.zero_le _) (Nat.zero_le _) rfl) x len cap (bs.map (.int .u8)) rfl ?c1 ?c2 ?c3 ?c4 ?c5 ?_)
      case c1 => simp [HLen.out]
      case c2 =>
        intro j u hj
        have hjl : j < bs.length := by have := (List.getElem?_eq_some_iff.1 hj).1; simpa using this
        refine Lib.cell?_alloc_some _ ?_
        rw [HRa.out.2 x rfl j hjl]
        have e : (bs.map (Value.int .u8))[j]? = some (Value.int .u8 (bs.getD j 0)) := by simp [List.getD, List.getElem?_eq_getElem hjl]
        rw [e] at hj
        exact hj
      case c3 => intro u hu; obtain ⟨y, _, rfl⟩ := List.mem_map.1 hu; rfl
      case c4 => unfold maxLen; omega
      case c5 => omega
      intro v' w2 hown hgrow hnew
      obtain ⟨ao1, cap1, rfl⟩ := own_shape hown
      obtain ⟨g1, rfl⟩ : ∃ g, ao1 = some ⟨g, 0, none⟩ := by
        rcases hown.2 with ⟨_, hz⟩ | ⟨g, c, cur, hv, _⟩
        · omega
        · simp at hv; exact ⟨g, hv.1⟩
      have hk2 : Kept NoB w1 w2 := (HKa.out.alloc _).grown hgrow (by intro j hj e; simp [Value.ownBlock] at e; have := HKa.out.size; omega)
      have hg1 : w1.heap.size ≤ g1 := by
        rcases hnew g1 rfl with h | h
        · simp [Value.ownBlock] at h; have := HKa.out.size; omega
        · have := HKa.out.size; omega
      have hcz : w2.cell? ⟨g1, p / 8, none⟩ = some (.int .u8 (bs.getD (p / 8) 0)) := by
        rw [hown.cellAt (p / 8) (by omega)]; simp [List.getD, show p / 8 < bs.length from by have := HLen.out; omega]
      have hfz : w2.frozen? ⟨g1, p / 8, none⟩ = false := hown.frozenAt _
      have hzb := HB.out.getD (p / 8)
      have HOwn := Lib.hid hown; have HK2 := Lib.hid hk2; have HG1 := Lib.hid hg1
      generalize hzz : bs.getD (p / 8) 0 = z at hcz hzb
      have HZ := Lib.hid hzz
      clear hown hk2 hg1 hgrow hnew hzz
      go_wp2_with fail
      go_region
      have hown3 := turn_row HOwn.out HZ.out
      have hk3 : Kept NoB w1 (w2.setCell ⟨g1, p / 8, none⟩ (.int .u8 (bits .xor .u8 z (2 ^ (p % 8) % 256)))).drew := Kept.drew (Kept.setCell (p := ⟨g1, p / 8, none⟩) HK2.out (.inr HG1.out) _)
      generalize (w2.setCell ⟨g1, p / 8, none⟩ (.int .u8 (bits .xor .u8 z (2 ^ (p % 8) % 256)))).drew = w3 at hown3 hk3 ⊢
      have HOwn3 := Lib.hid hown3; have HK3 := Lib.hid hk3
      have hpt := turnI_nats bs HB.out p (by have := HLen.out; omega)
      have HPT := Lib.hid hpt
      have htl : (turnI bs p).length = len := by rw [turnI_length]; exact HLen.out
      obtain ⟨os, hos⟩ : ∃ os, os = turnI bs p := ⟨_, rfl⟩
      rw [← hos] at HOwn3 HPT htl
      have HTL := Lib.hid htl
      have hRo : Reads w3 (some ⟨g1, 0, none⟩) os := own_reads (by rw [HTL.out]; exact HOwn3.out) HTL.out.symm
      have HRo := Lib.hid hRo; have HOs := Lib.hid hos
      clear hown3 hk3 hpt htl hRo hcz hfz hzb HOwn hos
      have hcap1 := own_cap HOwn3.out
      have hcap1' : len ≤ cap1 := hcap1.1
      go_wp2_with (at_builtin; refine wpList_app _ rfl _ _ 22 rfl 5 i0 (.int .u8 0) 1 1 Try.underlying22 hi hz0 hz1 hz2 rfl (by decide) _ 0 [] rfl (World.ownsRow_made w3 #[] 0 (Nat.zero_le _) (Nat.zero_le _) rfl) ⟨g1, 0, none⟩ len cap1 (os.map (.int .u8)) rfl ?d1 ?d2 ?d3 ?d4 ?d5 ?_)
      case d1 => simp [HTL.out]
      case d2 =>
        intro j u hj
        have hjl : j < os.length := by have := (List.getElem?_eq_some_iff.1 hj).1; simpa using this
        refine Lib.cell?_alloc_some _ ?_
        rw [HRo.out.2 _ rfl j hjl]
        have e : (os.map (Value.int .u8))[j]? = some (Value.int .u8 (os.getD j 0)) := by simp [List.getD, List.getElem?_eq_getElem hjl]
        rw [e] at hj
        exact hj
      case d3 => intro u hu; obtain ⟨y, _, rfl⟩ := List.mem_map.1 hu; rfl
      case d4 => unfold maxLen; omega
      case d5 => omega
      intro v' w4 hown hgrow hnew
      obtain ⟨ao2, cap2, rfl⟩ := own_shape hown
      obtain ⟨g2, rfl⟩ : ∃ g, ao2 = some ⟨g, 0, none⟩ := by
        rcases hown.2 with ⟨_, hz⟩ | ⟨g, c, cur, hv, _⟩
        · omega
        · simp at hv; exact ⟨g, hv.1⟩
      have hg2 : w3.heap.size ≤ g2 := by
        rcases hnew g2 rfl with h | h
        · simp [Value.ownBlock] at h; omega
        · omega
      have hk34 : Kept NoB w3 w4 := ((Kept.refl _ _).alloc _).grown hgrow (by intro j hj e; simp [Value.ownBlock] at e; omega)
      have hcz : w4.cell? ⟨g2, q / 8, none⟩ = some (.int .u8 (os.getD (q / 8) 0)) := by
        rw [hown.cellAt (q / 8) (by omega)]; simp [List.getD, show q / 8 < os.length from by have := HTL.out; omega]
      have hfz : w4.frozen? ⟨g2, q / 8, none⟩ = false := hown.frozenAt _
      have hzb := HPT.out.2.getD (q / 8)
      have HOwn := Lib.hid hown; have HK34 := Lib.hid hk34; have HG2 := Lib.hid hg2
      generalize hzz : os.getD (q / 8) 0 = z2 at hcz hzb
      have HZ2 := Lib.hid hzz
      clear hown hk34 hg2 hgrow hnew hzz
      go_wp2_with fail
      go_region
      have hown5 := turn_row HOwn.out HZ2.out
      have hk45 : Kept NoB w3 (w4.setCell ⟨g2, q / 8, none⟩ (.int .u8 (bits .xor .u8 z2 (2 ^ (q % 8) % 256)))).drew := Kept.drew (Kept.setCell (p := ⟨g2, q / 8, none⟩) HK34.out (.inr HG2.out) _)
      generalize (w4.setCell ⟨g2, q / 8, none⟩ (.int .u8 (bits .xor .u8 z2 (2 ^ (q % 8) % 256)))).drew = w5 at hown5 hk45 ⊢
      have hqt := turnI_nats os HPT.out.2 q (by have := HTL.out; omega)
      have HQT := Lib.hid hqt
      have htl2 : (turnI os q).length = len := by rw [turnI_length]; exact HTL.out
      obtain ⟨ts, hts⟩ : ∃ ts, ts = turnI os q := ⟨_, rfl⟩
      rw [← hts] at hown5 HQT htl2
      have HTs := Lib.hid hts; have HTL2 := Lib.hid htl2
      have hcap2 := own_cap hown5
      have HR1 : Hid (Reads w5 (some x) bs) := ((HR.out.keptNo HK1.out).keptNo HK3.out).keptNo hk45
      have HR2 : Hid (Reads w5 (some ⟨g1, 0, none⟩) os) := HRo.out.keptNo hk45
      have HR3 : Hid (Reads w5 (some ⟨g2, 0, none⟩) ts) := own_reads (by rw [HTL2.out]; exact hown5) HTL2.out.symm
      have HK5 : Hid (Kept NoB w1 w5) := HK3.out.trans hk45
      have hcap2' : len ≤ cap2 ∧ cap2 ≤ 9223372036854775807 := by have := hcap2; unfold maxLen at this; exact this
      have hcap1'' : len ≤ cap1 ∧ cap1 ≤ 9223372036854775807 := by have := hcap1; unfold maxLen at this; exact this
      clear hown5 hk45 hqt htl2 hcap2 hcap1 hcz hfz hzb hts
      have hnl : (nats bs).length = len := by simp [nats, HLen.out]
      have hone : crcOf 0 (nats os) ≠ crcOf 0 (nats bs) := by
        rw [HPT.out.1]; exact crc_one _ p (by rw [hnl]; omega) (nats_lt HB.out)
      have htwo : crcOf 0 (nats ts) = crcOf 0 (nats bs) ↔ p = q := by
        rw [HQT.out.1, HPT.out.1]; exact crc_two _ p q (by rw [hnl]; omega) (by rw [hnl]; omega) (nats_lt HB.out) (by rw [hnl]; omega)
      have HOne := Lib.hid hone; have HTwo := Lib.hid htwo
      clear hone htwo hnl
      go_wp2_with fail
      refine (sum_one bs (HT1.out.keptNo (HK5.out.alloc _)) (cell_new 0 rfl) HLen.out (HR1.out.keptNo ((Kept.refl _ _).alloc _)) HB.out hlc (by unfold maxLen; omega) H0.out).mono ?_
      rintro e w6 ⟨rfl, hk6⟩
      have HK6 := Lib.hid (((Kept.refl NoB w5).alloc _).trans hk6)
      clear hk6
      generalize hcb : crcOf 0 (nats bs) = cb at HOne HTwo ⊢
      clear hcb
      go_wp2_with fail
      refine (sum_one os (HT1.out.keptNo ((HK5.out.trans HK6.out).alloc _)) (cell_new 0 rfl) HTL.out (HR2.out.keptNo (HK6.out.alloc _)) HPT.out.2 hcap1''.1 (by unfold maxLen; omega) (fun h => by cases h)).mono ?_
      rintro e w7 ⟨rfl, hk7⟩
      have HK7 := Lib.hid (HK6.out.trans (((Kept.refl NoB w6).alloc _).trans hk7))
      clear hk7
      have hne : ((crcOf 0 (nats os) : Nat) : Int) ≠ (cb : Int) := by have := HOne.out; omega
      generalize crcOf 0 (nats os) = c1 at hne ⊢
      have hnb : (((c1 : Nat) : Int) != (cb : Int)) = true := by simp; omega
      have hneb : (((c1 : Nat) : Int) == (cb : Int)) = false := by simp; omega
      clear hne
      go_wp2_with fail
      refine (sum_one ts (HT1.out.keptNo ((HK5.out.trans HK7.out).alloc _)) (cell_new 0 rfl) HTL2.out (HR3.out.keptNo (HK7.out.alloc _)) HQT.out.2 hcap2'.1 (by unfold maxLen; omega) (fun h => by cases h)).mono ?_
      rintro e w8 ⟨rfl, hk8⟩
      have HK8 := Lib.hid (HK7.out.trans (((Kept.refl NoB w7).alloc _).trans hk8))
      clear hk8
      generalize crcOf 0 (nats ts) = c2 at HTwo ⊢
      have hcase : (((c2 : Nat) : Int) == (cb : Int)) = true ∧ ((p : Int) == (q : Int)) = true ∨ (((c2 : Nat) : Int) == (cb : Int)) = false ∧ ((p : Int) == (q : Int)) = false := by
        by_cases hpq : p = q
        · have := HTwo.out.2 hpq
          exact .inl ⟨by simp; omega, by simp; omega⟩
        · have h3 : ¬ c2 = cb := fun h => hpq (HTwo.out.1 h)
          exact .inr ⟨by simp; omega, by simp; omega⟩
      rcases hcase with ⟨hx1, hx2⟩ | ⟨hx1, hx2⟩
      all_goals
        go_wp2_with fail
        refine (awake2 _).mono ?_
        rintro e w9 ⟨rfl, hb9⟩
        have hk9 : Kept NoB w1 w9 := (HK5.out.trans HK8.out).ofBelow hb9
        have hfin := hk9.belowNo HB1.out
        go_wp2
        go_ret
        exact ⟨rfl, hfin⟩

theorem crcBits_law (v0 v1 v2 : Value) (w : World) (r0 : Arg w 22 v0) (r1 : Arg w 3 v1) (r2 : Arg w 3 v2) :
    Calls Try.prog 11 #[v0, v1, v2] w fun e w' => e = .returned (.bool true) ∧ Below w.heap.size w w' := by
  obtain ⟨ao, cap, bs, rfl, hc, hm, hr, hb, h0⟩ := r0.bytes Try.underlying22
  obtain ⟨a, rfl, ha⟩ := r1.int Try.underlying3
  obtain ⟨n, rfl, hn⟩ := r2.int Try.underlying3
  exact crcBits_walk ao cap bs.length bs a n w rfl hr hb h0 hc hm
end Go.Proofs.Ytffoigacpnlkgaa
