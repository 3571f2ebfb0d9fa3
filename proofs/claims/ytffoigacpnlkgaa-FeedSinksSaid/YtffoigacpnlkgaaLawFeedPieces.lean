/-
  FeedPieces: bytes are told in pieces of the sizes that are said, over and over; one behind the other they are all.
-/
import Derived.Test.YtffoigacpnlkgaaAwake3
namespace Go.Proofs.Ytffoigacpnlkgaa
open Go.RowKit
set_option linter.unusedVariables false
set_option linter.unusedSimpArgs false

def tI (zs : List Int) (i : Nat) : Nat := if zs = [] then 0 else i % zs.length
theorem tI_next (zs : List Int) (i : Nat) : tn zs (tI zs i) = tI zs (i + 1) := by
  unfold tn tI
  by_cases h : zs = []
  · simp [h]
  · simp only [if_neg h]; rw [Nat.mod_add_mod]
theorem RdI.below {w w' : World} {ao : Option Addr} {zs : List Int} (h : RdI w w.heap.size ao zs) (hb : Below w.heap.size w w') : RdI w' w.heap.size ao zs := h.kept ((Kept.refl NoB w).ofBelow hb) (fun _ _ h => h)
theorem Reads.below {w w' : World} {ao : Option Addr} {bs : List Int} (h : Reads w ao bs) (hb : Below w.heap.size w w') : Reads w' ao bs := h.keptNo ((Kept.refl NoB w).ofBelow hb)

set_option maxRecDepth 100000 in
set_option maxHeartbeats 4000000 in
theorem feedPieces_walk (ao : Option Addr) (cap len : Nat) (bs : List Int) (az : Option Addr) (cz lz : Nat) (zs : List Int) (w : World) (hlen : bs.length = len) (hr : Reads w ao bs) (hb : AllB bs) (h0 : ao = none → cap = 0) (hlc : len ≤ cap) (hm : cap ≤ maxLen)
    (hlz : zs.length = lz) (hri : RdI w w.heap.size az zs) (hza : AllI zs) (hz0 : az = none → zs.length = 0 ∧ cz = 0) (hmz : lz ≤ maxLen) :
    Calls Try.prog 13 #[.slice ao len cap, .slice az lz cz] w fun e w' => e = .returned (.bool true) ∧ Below w.heap.size w w' := by
  unfold maxLen at hm hmz
  have HLen := Lib.hid hlen; have HR := Lib.hid hr; have HB := Lib.hid hb; have H0 := Lib.hid h0
  have HLz := Lib.hid hlz; have HRI := Lib.hid hri; have HZa := Lib.hid hza; have HZ0 := Lib.hid hz0
  clear hlen hr hb h0 hlz hri hza hz0
  have hcase : ((500 : Int) < len) ∨ (¬ (500 : Int) < len ∧ (30 : Int) < lz) ∨ (¬ (500 : Int) < len ∧ ¬ (30 : Int) < lz) := by omega
  go_enter Try.func13, Try.ntmps13
  rcases hcase with h1 | ⟨h1, h2⟩ | ⟨h1, h2⟩
  · go_wp2_with fail
    refine (awake3 _).mono ?_
    rintro e w2 ⟨rfl, hb2⟩
    go_wp2
    go_ret
    exact ⟨rfl, hb2⟩
  · go_wp2_with fail
    refine (awake3 _).mono ?_
    rintro e w2 ⟨rfl, hb2⟩
    go_wp2
    go_ret
    exact ⟨rfl, hb2⟩
  · have hnew := news_any w ao cap bs az cz zs HR.out HB.out (by have := HLen.out; omega) HRI.out HZ0.out (by have := HLz.out; omega) HZa.out
    rw [HLen.out, HLz.out] at hnew
    have HNew := Lib.hid hnew; clear hnew
    go_wp2_with fail
    refine (HNew.out).mono ?_
    rintro e w1 ⟨S, ab, cb, az', cz', rfl, hS, hk1⟩
    have HS1 := Lib.hid hS; have HB1 := Lib.hid (hk1.belowNo (Below.refl _ _))
    clear hS hk1 HNew
    go_wp2
    go_loopw [6, 7] (fun a i wr => ∃ j p : Nat, j ≤ p ∧ p ≤ len ∧ i = .int .i64 j ∧ a = .int .i64 p ∧ Src wr S w.heap.size ab cb bs az' cz' zs p (tI zs j) ∧ Below w.heap.size w wr) (fun _ i _ => len + 1 - (intOf i).toNat)
    case atStart => exact ⟨0, 0, by omega, by omega, rfl, rfl, by have := HS1.out; unfold tI; by_cases hz : zs = [] <;> simp [hz] <;> simpa [hz] using this, HB1.out⟩
    case round =>
      obtain ⟨j, p, hjp, hpl, rfl, rfl, hS, hB⟩ := hrel
      have hjl : (j : Int) ≤ len := by omega
      have HS := Lib.hid hS; have HBr := Lib.hid hB
      clear hS hB
      have hsz := szOf_bd (bs := bs) HZa.out (by have := HLen.out; omega) (tI zs j)
      obtain ⟨n, hn⟩ : ∃ n : Nat, (n : Int) = if (bs.length : Int) - p < szOf bs zs (tI zs j) then (bs.length : Int) - p else szOf bs zs (tI zs j) := ⟨(if (bs.length : Int) - p < szOf bs zs (tI zs j) then (bs.length : Int) - p else szOf bs zs (tI zs j)).toNat, Int.toNat_of_nonneg (by have := HLen.out; split <;> omega)⟩
      have HN := Lib.hid hn; have HSz := Lib.hid hsz
      clear hn hsz
      go_upto_if 39 with fail
      go_cut [8] from 37 to 49 (fun s wx => s = .int .i64 n ∧ wr = wx)
      case first =>
        have hri := HRI.out.below HBr.out
        have hn := HN.out
        rw [HLen.out] at hn
        by_cases hz : zs = []
        · have hl0 : lz = 0 := by rw [← HLz.out, hz]; rfl
          have hs : szOf bs zs (tI zs j) = len := by unfold szOf; rw [if_pos hz, HLen.out]
          rw [hs] at hn
          clear hri hs hz
          subst hl0
          go_wp2
          go_meet
          exact ⟨by congr 1; split at hn <;> omega, rfl⟩
        · have hl0 : 0 < lz := by
            have : zs.length ≠ 0 := fun e => hz (List.eq_nil_of_length_eq_zero e)
            have := HLz.out; omega
          have hti : tI zs j = j % lz := by unfold tI; rw [if_neg hz, HLz.out]
          have hs : szOf bs zs (tI zs j) = if zs.getD (j % lz) 0 < 1 then 1 else zs.getD (j % lz) 0 := by unfold szOf; rw [if_neg hz, hti]
          rw [hs] at hn
          have hml : j % lz < lz := Nat.mod_lt _ hl0
          obtain ⟨g, off, hg1, hg2, hg3⟩ := hri (j % lz) (by have := HLz.out; omega)
          have hmod : ((j : Int) % (lz : Int)) = ((j % lz : Nat) : Int) := by push_cast; rfl
          have hlz0 : ((lz : Int) == 0) = false := by simp; omega
          generalize j % lz = u at *
          generalize zs.getD u 0 = z at *
          clear hri hs hz hti
          subst hg1
          go_wp2
          all_goals go_meet
          all_goals exact ⟨by congr 1; (split at hn <;> first | omega | (split at hn <;> first | omega | (split at hn <;> omega))), rfl⟩
      case rest =>
      obtain ⟨rfl, hw⟩ := hcut
      subst hw
      go_wp2_with fail
      refine (at_any _ HS.out).mono ?_
      rintro e w2 ⟨rfl, hk2⟩
      have HS2 := Lib.hid (HS.out.keptNo hk2); have HB2 := Lib.hid (hk2.belowNo HBr.out)
      clear hk2
      by_cases hpe : p = len
      · have hlt : ¬ (p : Int) < len := by omega
        go_wp2_with fail
        refine (next_end _ HS2.out (by rw [HLen.out]; exact hpe)).mono ?_
        rintro e w3 ⟨rfl, hk3⟩
        have HS3 := Lib.hid (HS2.out.keptNo hk3); have HB3 := Lib.hid (hk3.belowNo HB2.out)
        clear hk3
        go_wp2_with fail
        refine (next_end _ HS3.out (by rw [HLen.out]; exact hpe)).mono ?_
        rintro e w4 ⟨rfl, hk4⟩
        have HS4 := Lib.hid (HS3.out.keptNo hk4); have HB4 := Lib.hid (hk4.belowNo HB3.out)
        clear hk4
        go_wp2_with fail
        refine (at_any _ HS4.out).mono ?_
        rintro e w5 ⟨rfl, hk5⟩
        have HB5 := Lib.hid (hk5.belowNo HB4.out)
        clear hk5
        subst hpe
        go_wp2_with fail
        refine (awake3 _).mono ?_
        rintro e w6 ⟨rfl, hb6⟩
        have hb7 := HB5.out.trans (hb6.mono HB5.out.size)
        go_wp2
        go_ret
        exact ⟨rfl, hb7⟩
      · have hlt : (p : Int) < len := by omega
        have hplb : p < bs.length := by have := HLen.out; omega
        have hsz := HSz.out
        have hnl := HN.out
        have hn1 : 1 ≤ n ∧ p + n ≤ len := by have := HLen.out; split at hnl <;> omega
        obtain ⟨x, rfl⟩ : ∃ x, ao = some x := by
          cases ao with
          | none => have := H0.out rfl; omega
          | some x => exact ⟨x, rfl⟩
        have hnx := next_some _ (n := n) HS2.out hplb HN.out
        have HNx := Lib.hid hnx
        clear hnx hnl hsz hplb
        go_wp2_with fail
        refine HNx.out.mono ?_
        rintro e w3 ⟨a3, c3, rfl, HO3, HF3, HS3, HK3⟩
        have HSn : Hid (Src w3 S w.heap.size ab cb bs az' cz' zs (p + n) (tI zs (j + 1))) := by rw [← tI_next]; exact HS3.out
        have HB3 := Lib.hid (HK3.out.below HB2.out (by intro k hk; have := HS2.out.low; unfold OneB at hk; omega))
        clear HNx HS3
        have hxl : ((bs.drop p).take n).length = n := by rw [List.length_take, List.length_drop, HLen.out]; omega
        have HXl := Lib.hid hxl; clear hxl
        have HR3 := Lib.hid (HR.out.below HB3.out)
        have hr3 := own_reads (n := n) (by rw [HXl.out]; exact HO3.out) HXl.out.symm
        have h03 := own_nil HO3.out
        have hcp : ∀ W, Kept NoB w3 W → (convert 22 9 (.slice a3 n c3)).run Try.prog W = .ok (.string (strOfNums ((bs.drop p).take n))) W := fun W hk => conv_reads (hr3.keptNo hk) HXl.out.symm h03
        obtain ⟨q, hq⟩ : ∃ q, q = p + n := ⟨_, rfl⟩
        have hqp : q - p = n := by omega
        have hcb : ∀ W, Kept NoB w3 W → (convert 22 9 (.slice (some (x.add p)) (q - p) (cap - p))).run Try.prog W = .ok (.string (strOfNums ((bs.drop p).take n))) W := fun W hk => by
          rw [hqp]; exact conv_reads ((reads_take n (reads_drop p HR3.out)).keptNo hk) HXl.out.symm (fun h => by cases h)
        have hpq : (p : Int) + n = q := by omega
        have hqw : IntKind.i64.wrap (q : Int) = q := IntWalk.i64_in _ (by omega)
        have hp0 : (0 : Int) ≤ q := by omega
        have hpp : (0 : Int) ≤ p := by omega
        have hpc : (q : Int) ≤ cap := by omega
        have hpc2 : (p : Int) < cap := by omega
        have hpc3 : (p : Int) ≤ cap := by omega
        have hpn : (p : Int) ≤ q := by omega
        have hne : ¬ cap = p := by omega
        have HQ := Lib.hid hq
        clear hr3 h03 hq hqp
        generalize strOfNums ((bs.drop p).take n) = st at hcp hcb
        go_wp2_with fail
        go_region_held3 (fun W => Kept NoB w3 W) (first | assumption | exact Kept.drew (Kept.refl _ _) | exact Kept.drew (by assumption)) (fail)
        clear hcp hcb
        go_wp2
        go_roundw
        case rel => exact ⟨j + 1, q, by have := HQ.out; omega, by omega, by go_num, by go_num, by rw [HQ.out]; exact HSn.out.keptNo ((Kept.refl _ _).drew), ((Kept.refl NoB w3).drew).belowNo HB3.out⟩
        case measure => simp [intOf]; omega

theorem feedPieces_law (v0 v1 : Value) (w : World) (r0 : Arg w 22 v0) (r1 : Arg w 64 v1) : Calls Try.prog 13 #[v0, v1] w fun e w' => e = .returned (.bool true) ∧ Below w.heap.size w w' := by
  obtain ⟨ao, cap, bs, rfl, hc, hm, hr, hb, h0⟩ := r0.bytes Try.underlying22
  obtain ⟨az, cz, zs, rfl, hcz, hmz, hri, hza, hz0⟩ := r1.ints
  refine feedPieces_walk ao cap _ bs az cz _ zs w rfl hr hb h0 hc hm rfl hri hza (fun h => ⟨?_, hz0 h⟩) (by omega)
  have := hz0 h
  omega
end Go.Proofs.Ytffoigacpnlkgaa
