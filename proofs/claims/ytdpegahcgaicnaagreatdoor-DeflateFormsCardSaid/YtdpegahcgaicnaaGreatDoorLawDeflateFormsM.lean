/-
  DeflateForms: stored and fixed blocks are just the bits that the document says, behind whatever was put; what may not be is refused, and nothing is written.
-/
import Derived.Test.YtdpegahcgaicnaaGreatDoorMf31
import Derived.Deep.RegionHeld3
namespace Go.Proofs.YtdpegahcgaicnaaGreatDoor
open Go.RowKit
set_option linter.unusedVariables false
set_option linter.unusedSimpArgs false

theorem wpAnyH_mono {P : Program} {md : Region.Mode} {ops : Array Oper} {Q : Exit → Act → World → Prop} {S S' : World → Prop} (h : ∀ w, S' w → S w) :
    ∀ {fuel : Nat} {listed : Array Bool} {a : Act} {w : World}, wpAnyH P md ops Q S' fuel listed a w → wpAnyH P md ops Q S fuel listed a w := by
  intro fuel
  induction fuel with
  | zero => intro _ _ _ hh; exact hh
  | succ n ih => intro listed a w hh; exact ⟨hh.1, fun i hi => wpOp_mono (fun a w hw => ⟨h _ hw.1, ih hw.2⟩) (hh.2 i hi)⟩
theorem toks_lt {w : World} {ta : Option Addr} {ts : List Tk} (h : Toks w ta ts) (hne : ts ≠ []) : ∀ a, ta = some a → a.block < w.heap.size := by
  intro a ha
  have h0 : 0 < ts.length := List.length_pos_iff.2 hne
  obtain ⟨b, off, e, x0, _⟩ := h 0 h0
  rw [ha] at e; cases e
  exact World.block_lt_of_cell? w _ x0
theorem reads_lt {w : World} {ba : Option Addr} {b : List Int} (h : Reads w ba b) (hne : b ≠ []) : ∀ a, ba = some a → a.block < w.heap.size := by
  intro a ha
  have h0 : 0 < b.length := List.length_pos_iff.2 hne
  obtain ⟨g, off, e, hg, _⟩ := h.at h0
  rw [ha] at e; cases e
  exact hg
theorem mask7f (n : Int) : bits .and .i64 n 7 = n % 8 := i64_mask n 3 (by decide)
theorem goods_tame {ts : List Tk} {n : Nat} (h : TameS ts n) : allOkB ts = true := goods_ok fun t ht => by
  obtain ⟨i, hi, e⟩ := List.mem_iff_getElem.1 ht
  have := good_oks h.2.1 i hi
  have e2 : ts.getD i ⟨0, 0, 0⟩ = t := by simp [List.getD, hi, e]
  rw [e2] at this; exact this
set_option maxRecDepth 20000 in
set_option maxHeartbeats 4000000 in
theorem deflateForms_walk (ah : Int) (ba : Option Addr) (bc n : Nat) (b : List Int) (ta : Option Addr) (tc m : Nat) (ts : List Tk) (last : Bool) (w : World)
    (hn : n = b.length) (hrb : Reads w ba b) (hb : AllB b) (hnm : n ≤ maxLen) (hm : m = ts.length) (hrt : Toks w ta ts) (hat : AllT ts) (hmm : m ≤ maxLen) :
    Calls Tryz.prog 5 #[.int .i64 ah, .slice ba n bc, .slice ta m tc, .bool last] w fun e w' => e = .returned (.bool true) ∧ Below w.heap.size w w' := by
  unfold maxLen at hnm hmm
  obtain ⟨i0, hi, hz0, hz1, hz2⟩ := info_parts info5
  have HAw := Lib.hid awake10
  have HN := Lib.hid hn; have HRb := Lib.hid hrb; have HB := Lib.hid hb; have HM := Lib.hid hm; have HRt := Lib.hid hrt; have HAt := Lib.hid hat
  obtain ⟨k, hk⟩ : ∃ k : Nat, k = (ah % 8).toNat := ⟨_, rfl⟩
  have hk8 : k < 8 := by omega
  have hmask : bits .and .i64 ah 7 = (k : Int) := by rw [mask7f]; omega
  clear hn hrb hb hm hrt hat hk
  go_enter Tryz.func5, Tryz.ntmps5
  by_cases h5 : 500 < n
  · have h5i : (500 : Int) < (n : Int) := by omega
    go_wp2_with fail
    refine (HAw.out _).mono ?_
    rintro e w1 ⟨rfl, hk1⟩
    have HK1 := Lib.hid hk1
    clear hk1
    go_wp2
    go_ret
    exact ⟨rfl, HK1.out.belowNo (Below.refl _ _)⟩
  by_cases h6 : 60 < m
  · have h5i : ¬ (500 : Int) < (n : Int) := by omega
    have h6i : (60 : Int) < (m : Int) := by omega
    go_wp2_with fail
    refine (HAw.out _).mono ?_
    rintro e w1 ⟨rfl, hk1⟩
    have HK1 := Lib.hid hk1
    clear hk1
    go_wp2
    go_ret
    exact ⟨rfl, HK1.out.belowNo (Below.refl _ _)⟩
  have h5i : ¬ (500 : Int) < (n : Int) := by omega
  have h6i : ¬ (60 : Int) < (m : Int) := by omega
  go_wp2_with fail
  refine (neww_any _).mono ?_
  rintro e w1 ⟨A, rfl, hW, hWf, hk1⟩
  obtain ⟨wB, hwB⟩ : ∃ y, y = w1.alloc (.cells #[.slice none 0 0, .int .i64 0] 45) := ⟨_, rfl⟩
  obtain ⟨B, hBq⟩ : ∃ B, B = w1.heap.size := ⟨_, rfl⟩
  have hT0 : Two 73 45 w wB A none 0 [] 0 B none 0 [] 0 := by
    have hkB : Kept NoB w1 wB := by rw [hwB]; exact (Kept.refl _ _).alloc _
    have hB1 := hk1.belowNo (Below.refl w.heap.size w)
    have hA := hW.keptNo hkB
    have hAl := obj_lt hW.1
    exact ⟨hA, ⟨by rw [hwB, hBq]; exact heap_alloc_new _ _, World.ownsRow_nil _ _ _ _, (by intro b hb; cases hb), by simp, by simp [num], by omega⟩, by omega, hWf, by rw [hBq]; exact hB1.size,
      (by intro k hk; simp [Value.ownBlock] at hk), (by intro k hk; simp [Value.ownBlock] at hk), (by intro k hk; simp [Value.ownBlock] at hk), by decide, by decide, hkB.belowNo hB1⟩
  have HT0 := Lib.hid hT0
  go_upto_region 4 with fail
  rw [← hwB, ← hBq]
  clear hT0 hW hWf hk1 hwB hBq h5i h6i
  go_wp2_with fail
  refine (HT0.out.putA 5 k (by decide) (by omega) (by omega) _ (Kept.refl _ _)).mono ?_
  rintro e w2 ⟨rfl, a2, c2, b2, HT1, HN1⟩
  go_wp2_with fail
  refine (HT1.out.outB 5 k (by decide) (by omega) (by omega) _ (Kept.refl _ _)).mono ?_
  rintro e w3 ⟨rfl, x3, y3, b3, HT2, HN2⟩
  have hT := both_same HT2.out rfl (by rw [HN1.out, HN2.out])
  obtain ⟨s1, hs1⟩ : ∃ s1, s1 = 0 + k := ⟨_, rfl⟩
  rw [← hs1] at hT
  have hs1b : s1 ≤ 7 := by omega
  have HT := Lib.hid hT
  have hkw : Kept NoB w w3 := Kept.ofBelow (Kept.refl NoB w) hT.bel
  have hrb3 : Reads w3 ba b := HRb.out.kept hkw (fun _ _ h => h)
  have hst := stored_yes2 w3 A a2 c2 b2 s1 last ba bc b hT.a (by omega) hrb3 HB.out (by have := HN.out; omega) (fun hne a ha => by
    have h1 := reads_lt HRb.out hne a ha
    have h2 := hT.fa
    exact ⟨by omega, fun e => by have := hT.oa _ e; omega⟩)
  rw [← HN.out] at hst
  have HSt := Lib.hid hst
  clear hT hkw hrb3 hst HT0 HT1 HT2 HN1 HN2 hs1 hk8 hmask
  go_wp2_with fail
  refine HSt.out.mono ?_
  rintro e w4 ⟨a4, c4, b4, rfl, hW⟩
  obtain ⟨hT4, hN4⟩ := HT.out.ins hW
  have HT4 := Lib.hid hT4; have HN4 := Lib.hid hN4
  have HW0 := Lib.hid (WroteO.nil hT4.b)
  clear hW hT4 hN4 HSt HT
  obtain ⟨V, hV⟩ : ∃ V, V = lastN last := ⟨_, rfl⟩
  have hVb : V < 2 := by rw [hV]; exact lastN_lt last
  have HV := Lib.hid hV
  go_upto_if 45 with fail
  go_cut [11] (fun v wx => v = .int .u32 (V : Int) ∧ w4 = wx)
  case first =>
    cases last
    · have hv2 : V = 0 := hV
      subst hv2
      clear hV
      go_wp2
      go_meet
      exact ⟨rfl, rfl⟩
    · have hv2 : V = 1 := hV
      subst hv2
      clear hV
      go_wp2
      go_meet
      exact ⟨rfl, rfl⟩
  case rest =>
  obtain ⟨rfl, rfl⟩ := hcut
  clear hV
  have HP1 := Lib.hid (HW0.out.puts V 3 (by omega) (by decide) (by simp only [wdN]; omega) _ (Kept.refl _ _))
  go_wp2_with fail
  refine HP1.out.mono ?_
  rintro e w5 ⟨rfl, x5, y5, b5, hW5⟩
  rw [List.nil_append] at hW5
  have hal := hW5.aligns (by simp only [wdN]; omega) w5 (Kept.refl _ _)
  rw [show s1 + wdN [(V, 3)] = s1 + 3 from rfl] at hal
  have HAl := Lib.hid hal
  clear hW5 hal HP1 HW0
  go_wp2_with fail
  refine HAl.out.mono ?_
  rintro e w6 ⟨rfl, x6, y6, b6, hW6⟩
  obtain ⟨P, hP⟩ : ∃ P, P = up8 (s1 + 3) - (s1 + 3) := ⟨_, rfl⟩
  have hP7 : P ≤ 7 := by rw [hP]; unfold up8; omega
  rw [← hP] at hW6
  have HPq := Lib.hid hP
  have HP2 := Lib.hid (hW6.puts n 16 (by omega) (by decide) (by rw [wdN_append]; simp only [wdN]; omega) _ (Kept.refl _ _))
  have hw32 : IntKind.u32.wrap (n : Int) = (n : Int) := IntWalk.u32_in _ (by omega)
  clear hW6 hP HAl
  go_wp2_with fail
  refine HP2.out.mono ?_
  rintro e w7 ⟨rfl, x7, y7, b7, hW7⟩
  obtain ⟨Z, hZ⟩ : ∃ Z, Z = 65535 - n := ⟨_, rfl⟩
  have hxor : bits .xor .u32 (n : Int) 65535 = (Z : Int) := by rw [hZ]; exact xor16 n (by omega)
  have HP3 := Lib.hid (hW7.puts Z 16 (by omega) (by decide) (by rw [wdN_append, wdN_append]; simp only [wdN]; omega) _ (Kept.refl _ _))
  have HZq := Lib.hid hZ
  clear hW7 hZ HP2
  go_wp2_with fail
  refine HP3.out.mono ?_
  rintro e w8 ⟨rfl, x8, y8, b8, hW8⟩
  obtain ⟨L4, hL4⟩ : ∃ L4, L4 = [(V, 3)] ++ [(0, P)] ++ [(n, 16)] ++ [(Z, 16)] := ⟨_, rfl⟩
  have hL4w : wdN L4 ≤ 42 := by rw [hL4]; simp only [List.cons_append, List.nil_append, wdN]; omega
  rw [← hL4] at hW8
  have HW8 := Lib.hid hW8; have HL4 := Lib.hid hL4
  clear hW8 hL4 HP3 hw32 hxor
  go_wp2_with fail
  go_loopw [12] (fun i wr => ∃ (j : Nat) (x : Option Addr) (y : Nat) (bs' : List Int), j ≤ n ∧ i = .int .i64 (j : Int) ∧ Hid (WroteO w4 B (.slice x3 b2.length y3) b2 s1 (L4 ++ bytesW (b.take j)) wr x y bs')) (fun i _ => n - (intOf i).toNat)
  case atStart => exact ⟨0, x8, y8, b8, by omega, rfl, Lib.hid (by simpa [bytesW] using HW8.out)⟩
  case round =>
    obtain ⟨j, x9, y9, b9, hj, rfl, HW⟩ := hrel
    by_cases hlt : (j : Int) < (n : Int)
    · have hjb : j < b.length := by have := HN.out; omega
      have hkw : Kept NoB w wr := Kept.ofBelow (Kept.refl NoB w) (HT4.out.outs HW.out).1.bel
      obtain ⟨g, off, rfl, _, hc⟩ := (HRb.out.kept hkw (fun _ _ h => h)).at (by omega)
      have hcj := hc j hjb
      have hzb := AllB.getD HB.out j
      obtain ⟨z, hz⟩ : ∃ z : Nat, b.getD j 0 = (z : Int) := ⟨(b.getD j 0).toNat, by omega⟩
      rw [hz] at hcj hzb
      have hz8 : z < 256 := by omega
      have hw32 : IntKind.u32.wrap (z : Int) = (z : Int) := IntWalk.u32_in _ (by omega)
      have hbw : bytesW (b.take (j + 1)) = bytesW (b.take j) ++ [(z, 8)] := by
        unfold bytesW
        rw [List.take_add_one, List.getElem?_eq_getElem hjb, List.map_append]
        have : b[j] = (z : Int) := by rw [← hz]; simp [List.getD, hjb]
        simp [this]
      have hbl : (bytesW (b.take j)).length ≤ n := by unfold bytesW; simp; omega
      have HP := Lib.hid (HW.out.puts z 8 (by omega) (by decide) (by rw [wdN_append, bytesW_wd, List.length_take]; omega) _ (Kept.refl _ _))
      have HBw := Lib.hid hbw
      clear hkw hc hz hzb hbw hbl hjb
      go_wp2_with fail
      refine HP.out.mono ?_
      rintro e wn ⟨rfl, xn, yn, bn, hWn⟩
      rw [List.append_assoc, ← HBw.out] at hWn
      have HWn := Lib.hid hWn
      clear hWn HP
      go_wp2
      go_roundw
      case rel => exact ⟨j + 1, xn, yn, bn, by omega, by go_num, HWn⟩
      case measure => simp [intOf]; omega
    · have hjn : j = n := by omega
      subst hjn
      have hWf := HW.out
      rw [HN.out, List.take_length] at hWf
      obtain ⟨ss1, ss2⟩ := stored_same last P b
      rw [← HV.out] at ss1 ss2
      have hL : L4 ++ bytesW b = [(V, 3)] ++ [(0, P)] ++ [(b.length, 16)] ++ [(65535 - b.length, 16)] ++ bytesW b := by rw [HL4.out, HZq.out, HN.out]
      rw [← hL] at ss1 ss2
      have hst4 := HT4.out
      have hsn4 := HN4.out
      rw [← HPq.out] at hst4 hsn4
      obtain ⟨a5, c5, x5, y5, hD⟩ := Two.duo hst4 hsn4 hWf ss1 ss2
      obtain ⟨s2, hs2⟩ : ∃ s2, s2 = s1 + wdN (storedW last P b) := ⟨_, rfl⟩
      have hs2b : s2 ≤ 5000 := by
        rw [hs2, ss2, wdN_append, bytesW_wd]
        have := HN.out; omega
      rw [← hs2] at hD
      have HD := Lib.hid hD
      clear hWf ss1 ss2 hL hst4 hsn4 hD hs2 HW HW8 HL4 HT4 HN4
      go_wp2_with fail
      go_loopw [13, 14] (fun g i wr2 => ∃ (j : Nat) (gd : Bool), j ≤ m ∧ i = .int .i64 (j : Int) ∧ g = .bool gd ∧ Hid (gd = (ts.take j).all Tk.ok) ∧ Hid (Kept NoB wr wr2)) (fun _ i _ => m - (intOf i).toNat)
      case atStart => exact ⟨0, true, by omega, rfl, rfl, Lib.hid (by simp), Lib.hid (Kept.refl _ _)⟩
      case round =>
        obtain ⟨j2, gd, hj2, rfl, rfl, HG, HK⟩ := hrel
        by_cases hlt2 : (j2 : Int) < (m : Int)
        · have hjt : j2 < ts.length := by have := HM.out; omega
          have hkw : Kept NoB w wr := (Kept.ofBelow (Kept.refl NoB w) HD.out.bel).trans HK.out
          obtain ⟨g, off, rfl, c0, c1, c2⟩ := (HRt.out.keptNo hkw) j2 hjt
          have hall : (ts.take (j2 + 1)).all Tk.ok = ((ts.take j2).all Tk.ok && (ts.getD j2 ⟨0, 0, 0⟩).ok) := by rw [take_snocT ts j2 hjt, List.all_append]; simp
          rw [← HG.out] at hall
          generalize ts.getD j2 ⟨0, 0, 0⟩ = t at c0 c1 c2 hall
          obtain ⟨tl, td, tl2⟩ := t
          simp only at c0 c1 c2
          have HAll := Lib.hid hall
          clear hkw hall hjt hlt
          cases gd
          · go_wp2
            go_roundw
            case rel => exact ⟨j2 + 1, false, by omega, by go_num, rfl, Lib.hid (by rw [HAll.out]; rfl), HK⟩
            case measure => simp [intOf]; omega
          · go_wp2_with fail
            refine (refOk_any ⟨tl, td, tl2⟩ _).mono ?_
            rintro e wk ⟨rfl, hkk⟩
            have HKk := Lib.hid (HK.out.trans hkk)
            obtain ⟨ok, hok⟩ : ∃ ok, ok = (Tk.mk tl td tl2).ok := ⟨_, rfl⟩
            have HOk := Lib.hid hok
            rw [← hok]
            clear hkk hok
            go_wp2
            go_roundw
            case rel => exact ⟨j2 + 1, ok, by omega, by go_num, rfl, Lib.hid (by rw [HAll.out, HOk.out]; rfl), HKk⟩
            case measure => simp [intOf]; omega
        · have hjm : j2 = m := by omega
          subst hjm
          have hgd := HG.out
          rw [HM.out, List.take_length] at hgd
          have hgd2 : gd = allOkB ts := hgd
          have hD2 := HD.out.keptNo HK.out
          have hkw : Kept NoB w wr := Kept.ofBelow (Kept.refl NoB w) hD2.bel
          have HD2 := Lib.hid hD2
          have HRt2 := Lib.hid (HRt.out.keptNo hkw)
          have htl : ts.length ≤ 60 := by have := HM.out; omega
          have hsepA : ts ≠ [] → ∀ q, ta = some q → (q.block ≠ A ∧ (Value.slice a5 b4.length c5).ownBlock ≠ some q.block) ∧ (q.block ≠ B ∧ (Value.slice x5 b4.length y5).ownBlock ≠ some q.block) := fun hne q hq => by
            have h1 := toks_lt HRt.out hne q hq
            have h2 := hD2.fa
            have h3 := hD2.fb
            exact ⟨⟨by omega, fun e => by have := hD2.oa _ e; omega⟩, ⟨by omega, fun e => by have := hD2.ob _ e; omega⟩⟩
          have HSepA := Lib.hid hsepA
          have HGd := Lib.hid hgd2
          clear hgd hD2 hkw HD HG hsepA hlt hgd2
          cases gd
          case' false =>
            have hno := fixedBlock_no wr A last ta tc ts HRt2.out (by omega) HGd.out.symm
            rw [← HM.out] at hno
            have HNo := Lib.hid hno
            clear hno
            go_wp2_with fail
            refine HNo.out.mono ?_
            rintro e w9 ⟨rfl, hk9⟩
            have HT9 := Lib.hid (HD2.out.keptNo hk9)
            have hc1 : ∀ W, Kept NoB w9 W → W.cell? ⟨B, 1, none⟩ = some (.int .i64 s2) := fun W hk => by simpa using obj_cell (HT9.out.keptNo hk).b.1 1
            have hk99 := Kept.refl NoB w9
            clear hk9 HNo
            go_wp2_with fail
            go_region_held3 (fun W => Kept NoB w9 W) (first | assumption | exact Kept.drew (by assumption) | exact Kept.trans (by assumption) hkn)
              (first
                | (go_at_call 23; ((with_reducible refine (HT9.out.lenA _ (by assumption)).mono ?_); rintro e wn ⟨rfl, hkn⟩)))
            have hkn9 : Kept NoB w9 wn := by assumption
            have HKn9 := Lib.hid hkn9
            clear hc1 hk99 hkn9
            go_upto_if 114 with fail
            go_cut [] from 114 to 118 (fun wz => ∃ a8 c8 b8 s3 x8 y8, s3 ≤ 9000 ∧ Hid (Two 73 45 w wz A a8 c8 b8 s3 B x8 y8 b8 s3))
            case' first =>
              go_wp2
              go_meet
              exact ⟨a5, c5, b4, s2, x5, y5, by omega, Lib.hid (HT9.out.keptNo HKn9.out)⟩
          case' true =>
            have hyes := fixedBlock_yes wr A a5 c5 b4 s2 last ta tc ts HD2.out.a (by omega) HRt2.out (fun hne q hq => (HSepA.out hne q hq).1) (by omega) HAt.out HGd.out.symm
            rw [← HM.out] at hyes
            have HYes := Lib.hid hyes
            clear hyes
            go_wp2_with fail
            refine HYes.out.mono ?_
            rintro e w9 ⟨ws, a6, c6, b6, rfl, hws, hW6⟩
            obtain ⟨hT6, hN6⟩ := HD2.out.ins hW6
            have HN6 := Lib.hid hN6
            clear hN6
            have hweq := hws.eq
            have hwd := hws.wd fixL_ok.2.1 fixD_ok.2.1
            have hk6 := hW6.2.2.1
            have hr6 : Toks w9 ta ts := HRt.out.keptNo (Kept.ofBelow (Kept.refl NoB w) hT6.bel)
            have HDf : Hid (∀ W, Kept NoB w9 W → Calls Tryz.prog 24 #[.pointer (some ⟨B, 0, none⟩), .bool last, .slice ta j2 tc] W fun e w' => ∃ ao' cap' bs', e = .returned (.tuple #[]) ∧ WroteO W B (.slice x5 b4.length y5) b4 s2 ([(lastN last + 2, 3)] ++ (ts.flatMap (tokWd fixL fixD) ++ [wordZ fixL 256])) w' ao' cap' bs') := Lib.hid fun W hk => by
              have h := docFixed_any W B x5 y5 b4 s2 last ta tc ts (hT6.keptNo hk).b (by omega) (hr6.keptNo hk) (fun hne q hq => (HSepA.out hne q hq).2) (by omega) HAt.out (fun t ht => allOkB_mem HGd.out.symm t ht)
              rw [← HM.out] at h
              exact h
            have HT6 := Lib.hid hT6; have HWe := Lib.hid hweq; have HWd := Lib.hid hwd
            clear hws hW6 hT6 hweq hwd hk6 hr6 HYes
            go_upto_region 27 with fail
            go_quiet (fail)
            go_upto_if 114 with fail
            go_cut [] from 114 to 118 (fun wz => ∃ a8 c8 b8 s3 x8 y8, s3 ≤ 9000 ∧ Hid (Two 73 45 w wz A a8 c8 b8 s3 B x8 y8 b8 s3))
            case' first =>
              have hkq := (Kept.refl NoB w9).drewN nq
              have HKq := Lib.hid hkq
              clear hkq
              go_wp2_with fail
              refine (HDf.out _ HKq.out).mono ?_
              rintro e wf ⟨x7, y7, b7, rfl, hO⟩
              have hT7 := HT6.out.keptNo HKq.out
              rw [← HWe.out] at hO
              obtain ⟨e1, e2⟩ := fixed_same last (ws ++ [wordZ fixL 256])
              obtain ⟨a8, c8, x8, y8, hD3⟩ := Two.duo hT7 HN6.out hO e1 e2
              have HD3 := Lib.hid hD3
              have hs3 : s2 + wdN ([(lastN last, 1), (1, 2)] ++ (ws ++ [wordZ fixL 256])) ≤ 9000 := by
                have h1 := HWd.out
                have h2 : (wordZ fixL 256).2 ≤ 15 := by decide +kernel
                rw [wdN_append, wdN_append]; simp only [wdN]; omega
              clear hT7 hO e1 e2 hD3 HKq
              go_wp2
              go_meet
              exact ⟨a8, c8, b6, _, x8, y8, hs3, HD3⟩
          all_goals
            obtain ⟨a8, c8, b8, s3, x8, y8, hs3, HT3⟩ := hcut
            have hkw := Kept.ofBelow (Kept.refl NoB w) HT3.out.bel
            have HTm := Lib.hid (tamef_any ta tc j2 ts 40 wc HM.out.symm (HRt.out.keptNo hkw) HAt.out (by unfold maxLen; omega) (by decide))
            clear hkw
            go_wp2_with fail
            refine HTm.out.mono ?_
            rintro e w11 ⟨la, lc, l, nl, rfl, HLt, HLs, hl40, hlc1, hlc2, HLf, HK11⟩
            obtain ⟨M, hM⟩ : ∃ M, M = l.length := ⟨_, rfl⟩
            have HMl := Lib.hid hM
            rw [← hM] at hl40 hlc1 ⊢
            have HT11 := Lib.hid (HT3.out.keptNo HK11.out)
            have hsepL : ∀ a, la = some a → (a.block ≠ A ∧ (Value.slice a8 b8.length c8).ownBlock ≠ some a.block) ∧ (a.block ≠ B ∧ (Value.slice x8 b8.length y8).ownBlock ≠ some a.block) := fun a ha => by
              have h1 := HLf.out a ha
              have h2 := obj_lt HT3.out.a.1
              have h3 := obj_lt HT3.out.b.1
              have h4 := own_lt HT3.out.a.2.1
              have h5 := own_lt HT3.out.b.2.1
              exact ⟨⟨by omega, fun e => by have := h4 _ e; omega⟩, ⟨by omega, fun e => by have := h5 _ e; omega⟩⟩
            have hy := fixedBlock_yes w11 A a8 c8 b8 s3 last la lc l HT11.out.a (by omega) HLt.out (fun _ a ha => (hsepL a ha).1) (by omega) HLs.out.1 (goods_tame HLs.out)
            rw [← HMl.out] at hy
            have HY := Lib.hid hy; have HSepL := Lib.hid hsepL
            clear hy hsepL hM HTm hlc1 hlc2
            go_wp2_with fail
            refine HY.out.mono ?_
            rintro e w12 ⟨ws2, a9, c9, b9, rfl, hws, hW9⟩
            obtain ⟨hT12, hN12⟩ := HT11.out.ins hW9
            have HN12 := Lib.hid hN12
            clear hN12
            have hr12 : Toks w12 la l := fun j hj => by
              obtain ⟨bq, off, hla, q0, q1, q2⟩ := HLt.out j hj
              have hs := (HSepL.out _ hla).1
              have hb : ¬ OrB (OneB A) (OwnB (.slice a8 b8.length c8)) bq := fun e => e.elim (fun e => hs.1 e) (fun e => hs.2 e)
              have hc : ∀ (o : Nat) (v : Value), w11.cell? ⟨bq, o, none⟩ = some v → w12.cell? ⟨bq, o, none⟩ = some v := fun o v hv => (World.cell?_of_block (hW9.2.2.1.block _ (World.block_lt_of_cell? w11 _ hv) hb)).trans hv
              exact ⟨bq, off, hla, hc _ _ q0, hc _ _ q1, hc _ _ q2⟩
            have hdf := docFixed_any w12 B x8 y8 b8 s3 last la lc l hT12.b (by omega) hr12 (fun _ a ha => (HSepL.out a ha).2) (by have := HMl.out; omega) HLs.out.1 (fun t ht => allOkB_mem (goods_tame HLs.out) t ht)
            rw [← HMl.out] at hdf
            have HDf := Lib.hid hdf; have HT12 := Lib.hid hT12; have HWe := Lib.hid hws.eq
            clear hws hW9 hT12 hr12 hdf HY
            go_wp2_with fail
            refine HDf.out.mono ?_
            rintro e w13 ⟨x9, y9, b10, rfl, hO⟩
            rw [← HWe.out] at hO
            obtain ⟨e1, e2⟩ := fixed_same last (ws2 ++ [wordZ fixL 256])
            obtain ⟨a10, c10, x10, y10, hD4⟩ := Two.duo HT12.out HN12.out hO e1 e2
            generalize s3 + wdN ([(lastN last, 1), (1, 2)] ++ (ws2 ++ [wordZ fixL 256])) = s4 at hD4
            have HD4 := Lib.hid hD4
            clear hO e1 e2 hD4 HDf HT12 HN12 HWe
            go_wp2_with (at_make; refine wpList_make_full _ rfl _ _ _ rfl 0 5 i0 (.int .u8 0) 1 Tryz.underlying22 hi hz0 hz1 .i64 .i64 _ _ 65536 rfl rfl rfl rfl (by rw [hz2]; omega) (by unfold maxLen; omega) (Nat.zero_le _) ?_)
            intro w14 hown hgrow
            have HT14 := Lib.hid (HD4.out.keptNo ((Kept.refl NoB w13).grown hgrow (fun _ _ e => by cases e)))
            clear hown hgrow HD4
            go_wp2_with fail
            refine (stored_no w14 A _ 65536 65536 last (by decide)).mono ?_
            rintro e w15 ⟨rfl, rfl⟩
            have h0b : x10 = none → y10 = 0 := own_nil HT14.out.b.2.1
            have hcB : ∀ W, Kept NoB w15 W → (convert 22 9 (.slice x10 b9.length y10)).run Tryz.prog W = .ok (.string (strOfNums b9)) W := fun W hk => conv_reads ((own_reads HT14.out.b.2.1 rfl).kept hk (fun _ _ h => h)) rfl h0b
            have hc0 : ∀ W, Kept NoB w15 W → W.cell? ⟨B, 0, none⟩ = some (.slice x10 b9.length y10) := fun W hk => by simpa using obj_cell (HT14.out.keptNo hk).b.1 0
            have hc1 : ∀ W, Kept NoB w15 W → W.cell? ⟨B, 1, none⟩ = some (.int .i64 s4) := fun W hk => by simpa using obj_cell (HT14.out.keptNo hk).b.1 1
            clear h0b
            go_wp2_with fail
            refine wp_region_noPanic ?_
            refine wp_region_held_drew (S := fun W => Kept NoB w15 W) (by kernel_rfl) ((Kept.refl NoB w15).drew) (fun hHeld => ?_)
            refine wpAnyH_take (i := 0) (v := ?_) (by rw [List.getElem?_toArray]; rfl) (by kernel_rfl) (by kernel_rfl) (by kernel_rfl) (fun _ _ _ h => h) (Or.inl ⟨by rfl, ?_⟩) (by assumption) ?_
            rotate_left
            · (intro w hSw; (try dsimp only at hSw); go_simp; (try with_reducible rfl))
            try simp only [Act.put, List.setIfInBounds_toArray, List.set_cons_zero, List.set_cons_succ]
            refine wpAnyH_take (i := 1) (v := ?_) (by rw [List.getElem?_toArray]; rfl) (by kernel_rfl) (by kernel_rfl) (by kernel_rfl) (fun _ _ _ h => h) (Or.inl ⟨by rfl, ?_⟩) (by assumption) ?_
            rotate_left
            · (intro w hSw; (try dsimp only at hSw); go_simp; (try with_reducible rfl))
            try simp only [Act.put, List.setIfInBounds_toArray, List.set_cons_zero, List.set_cons_succ]
            refine wpAnyH_take (i := 2) (v := ?_) (by rw [List.getElem?_toArray]; rfl) (by kernel_rfl) (by kernel_rfl) (by kernel_rfl) (fun _ _ _ h => h) (Or.inl ⟨by rfl, ?_⟩) (by assumption) ?_
            rotate_left
            · (intro w hSw; (try dsimp only at hSw); go_simp; (try with_reducible rfl))
            try simp only [Act.put, List.setIfInBounds_toArray, List.set_cons_zero, List.set_cons_succ]
            refine wpAnyH_take (i := 3) (v := ?_) (by rw [List.getElem?_toArray]; rfl) (by kernel_rfl) (by kernel_rfl) (by kernel_rfl) (fun _ _ _ h => h) (Or.inl ⟨by rfl, ?_⟩) (by assumption) ?_
            rotate_left
            · (intro w hSw; (try dsimp only at hSw); go_simp; (try with_reducible rfl))
            try simp only [Act.put, List.setIfInBounds_toArray, List.set_cons_zero, List.set_cons_succ]
            refine wpAnyH_take (i := 5) (v := ?_) (by rw [List.getElem?_toArray]; rfl) (by kernel_rfl) (by kernel_rfl) (by kernel_rfl) (fun _ _ _ h => h) (Or.inl ⟨by rfl, ?_⟩) (by assumption) ?_
            rotate_left
            · (intro w hSw; (try dsimp only at hSw); go_simp; (try with_reducible rfl))
            try simp only [Act.put, List.setIfInBounds_toArray, List.set_cons_zero, List.set_cons_succ]
            refine wpAnyH_take (i := 6) (v := ?_) (by rw [List.getElem?_toArray]; rfl) (by kernel_rfl) (by kernel_rfl) (by kernel_rfl) (fun _ _ _ h => h) (Or.inl ⟨by rfl, ?_⟩) (by assumption) ?_
            rotate_left
            · (intro w hSw; (try dsimp only at hSw); go_simp; (try with_reducible rfl))
            try simp only [Act.put, List.setIfInBounds_toArray, List.set_cons_zero, List.set_cons_succ]
            refine wpAnyH_take (i := 7) (v := ?_) (by rw [List.getElem?_toArray]; rfl) (by kernel_rfl) (by kernel_rfl) (by kernel_rfl) (fun _ _ _ h => h) (Or.inl ⟨by rfl, ?_⟩) (by assumption) ?_
            rotate_left
            · (intro w hSw; (try dsimp only at hSw); go_simp; (try with_reducible rfl))
            try simp only [Act.put, List.setIfInBounds_toArray, List.set_cons_zero, List.set_cons_succ]
            refine wpAnyH_take (i := 8) (v := ?_) (by rw [List.getElem?_toArray]; rfl) (by kernel_rfl) (by kernel_rfl) (by kernel_rfl) (fun _ _ _ h => h) (Or.inl ⟨by rfl, ?_⟩) (by assumption) ?_
            rotate_left
            · (intro w hSw; (try dsimp only at hSw); go_simp; (try with_reducible rfl))
            try simp only [Act.put, List.setIfInBounds_toArray, List.set_cons_zero, List.set_cons_succ]
            refine wpAnyH_ready (rs := [4]) (by kernel_rfl) (by simp) ?_
            refine AllReadyH.cons (by rw [List.getElem?_toArray]; rfl) (fun K hK => ?_) AllReadyH.nil
            go_simp
            go_at_call 23
            (with_reducible refine (HT14.out.lenA _ hHeld).mono ?_)
            rintro e wn ⟨rfl, hkn⟩
            have hSn := hHeld.trans hkn
            go_wp2_with fail
            refine hK.out _ _ hSn (fun hHeld => ?_)
            clear hK K hSn
            try simp only [Act.put, List.setIfInBounds_toArray, List.set_cons_zero, List.set_cons_succ]
            refine wpAnyH_take (i := 9) (v := ?_) (by rw [List.getElem?_toArray]; rfl) (by kernel_rfl) (by kernel_rfl) (by kernel_rfl) (fun _ _ _ h => h) (Or.inl ⟨by rfl, ?_⟩) (by assumption) ?_
            rotate_left
            · (intro w hSw; (try dsimp only at hSw); go_simp; (try with_reducible rfl))
            try simp only [Act.put, List.setIfInBounds_toArray, List.set_cons_zero, List.set_cons_succ]
            refine wpAnyH_take (i := 10) (v := ?_) (by rw [List.getElem?_toArray]; rfl) (by kernel_rfl) (by kernel_rfl) (by kernel_rfl) (fun _ _ _ h => h) (Or.inl ⟨by rfl, ?_⟩) (by assumption) ?_
            rotate_left
            · (intro w hSw; (try dsimp only at hSw); go_simp; (try with_reducible rfl))
            try simp only [Act.put, List.setIfInBounds_toArray, List.set_cons_zero, List.set_cons_succ]
            refine wpAnyH_take (i := 11) (v := ?_) (by rw [List.getElem?_toArray]; rfl) (by kernel_rfl) (by kernel_rfl) (by kernel_rfl) (fun _ _ _ h => h) (Or.inl ⟨by rfl, ?_⟩) (by assumption) ?_
            rotate_left
            · (intro w hSw; (try dsimp only at hSw); go_simp; (try with_reducible rfl))
            try simp only [Act.put, List.setIfInBounds_toArray, List.set_cons_zero, List.set_cons_succ]
            refine wpAnyH_take (i := 12) (v := ?_) (by rw [List.getElem?_toArray]; rfl) (by kernel_rfl) (by kernel_rfl) (by kernel_rfl) (fun _ _ _ h => h) (Or.inl ⟨by rfl, ?_⟩) (by assumption) ?_
            rotate_left
            · (intro w hSw; (try dsimp only at hSw); go_simp; (try with_reducible rfl))
            try simp only [Act.put, List.setIfInBounds_toArray, List.set_cons_zero, List.set_cons_succ]
            refine wpAnyH_take (i := 15) (v := ?_) (by rw [List.getElem?_toArray]; rfl) (by kernel_rfl) (by kernel_rfl) (by kernel_rfl) (fun _ _ _ h => h) (Or.inl ⟨by rfl, ?_⟩) (by assumption) ?_
            rotate_left
            · (intro w hSw; (try dsimp only at hSw); go_simp; (try with_reducible rfl))
            try simp only [Act.put, List.setIfInBounds_toArray, List.set_cons_zero, List.set_cons_succ]
            refine wpAnyH_take (i := 16) (v := ?_) (by rw [List.getElem?_toArray]; rfl) (by kernel_rfl) (by kernel_rfl) (by kernel_rfl) (fun _ _ _ h => h) (Or.inl ⟨by rfl, ?_⟩) (by assumption) ?_
            rotate_left
            · (intro w hSw; (try dsimp only at hSw); go_simp; (try with_reducible rfl))
            try simp only [Act.put, List.setIfInBounds_toArray, List.set_cons_zero, List.set_cons_succ]
            refine wpAnyH_take (i := 17) (v := ?_) (by rw [List.getElem?_toArray]; rfl) (by kernel_rfl) (by kernel_rfl) (by kernel_rfl) (fun _ _ _ h => h) (Or.inl ⟨by rfl, ?_⟩) (by assumption) ?_
            rotate_left
            · (intro w hSw; (try dsimp only at hSw); go_simp; (try with_reducible rfl))
            try simp only [Act.put, List.setIfInBounds_toArray, List.set_cons_zero, List.set_cons_succ]
            refine wpAnyH_take (i := 18) (v := ?_) (by rw [List.getElem?_toArray]; rfl) (by kernel_rfl) (by kernel_rfl) (by kernel_rfl) (fun _ _ _ h => h) (Or.inl ⟨by rfl, ?_⟩) (by assumption) ?_
            rotate_left
            · (intro w hSw; (try dsimp only at hSw); go_simp; (try with_reducible rfl))
            try simp only [Act.put, List.setIfInBounds_toArray, List.set_cons_zero, List.set_cons_succ]
            refine wpAnyH_take (i := 19) (v := ?_) (by rw [List.getElem?_toArray]; rfl) (by kernel_rfl) (by kernel_rfl) (by kernel_rfl) (fun _ _ _ h => h) (Or.inl ⟨by rfl, ?_⟩) (by assumption) ?_
            rotate_left
            · (intro w hSw; (try dsimp only at hSw); go_simp; (try with_reducible rfl))
            try simp only [Act.put, List.setIfInBounds_toArray, List.set_cons_zero, List.set_cons_succ]
            clear hcB hc0 hc1
            refine wpAnyH_ready (rs := [13]) (by kernel_rfl) (by simp) ?_
            refine AllReadyH.cons (by rw [List.getElem?_toArray]; rfl) (fun K hK => ?_) AllReadyH.nil
            go_simp
            go_at_call 16
            (with_reducible refine (HT14.out.bytesA _ hHeld).mono ?_)
            rintro e w16 ⟨ao2, cap2, rfl, Hr2, H02, Hc2, hk2⟩
            clear Hc2
            have hk3 := hHeld.trans hk2
            have HK3 := Lib.hid hk3
            go_wp2_with fail
            refine hK.out _ _ hk3 (fun hHeld2 => ?_)
            clear hK K hHeld hHeld2 hk2
            try simp only [Act.put, List.setIfInBounds_toArray, List.set_cons_zero, List.set_cons_succ]
            refine wpAnyH_mono (S' := fun W => Kept NoB w16 W) (fun _ h => hk3.trans h) ?_
            have hHeld := Kept.refl NoB w16
            clear hk3
            have hcA : ∀ W, Kept NoB w16 W → (convert 22 9 (.slice ao2 b9.length cap2)).run Tryz.prog W = .ok (.string (strOfNums b9)) W := fun W hk => conv_reads (Hr2.out.kept hk (fun _ _ h => h)) rfl H02.out
            refine wpAnyH_take (i := 14) (v := ?_) (by rw [List.getElem?_toArray]; rfl) (by kernel_rfl) (by kernel_rfl) (by kernel_rfl) (fun _ _ _ h => h) (Or.inl ⟨by rfl, ?_⟩) (by assumption) ?_
            rotate_left
            · (intro w hSw; (try dsimp only at hSw); go_simp; (try with_reducible rfl))
            try simp only [Act.put, List.setIfInBounds_toArray, List.set_cons_zero, List.set_cons_succ]
            refine wpAnyH_take (i := 20) (v := ?_) (by rw [List.getElem?_toArray]; rfl) (by kernel_rfl) (by kernel_rfl) (by kernel_rfl) (fun _ _ _ h => h) (Or.inl ⟨by rfl, ?_⟩) (by assumption) ?_
            rotate_left
            · (intro w hSw; (try dsimp only at hSw); go_simp; (try with_reducible rfl))
            try simp only [Act.put, List.setIfInBounds_toArray, List.set_cons_zero, List.set_cons_succ]
            refine wpAnyH_take (i := 21) (v := ?_) (by rw [List.getElem?_toArray]; rfl) (by kernel_rfl) (by kernel_rfl) (by kernel_rfl) (fun _ _ _ h => h) (Or.inl ⟨by rfl, ?_⟩) (by assumption) ?_
            rotate_left
            · (intro w hSw; (try dsimp only at hSw); go_simp; (try with_reducible rfl))
            try simp only [Act.put, List.setIfInBounds_toArray, List.set_cons_zero, List.set_cons_succ]
            refine wpAnyH_take (i := 22) (v := ?_) (by rw [List.getElem?_toArray]; rfl) (by kernel_rfl) (by kernel_rfl) (by kernel_rfl) (fun _ _ _ h => h) (Or.inl ⟨by rfl, ?_⟩) (by assumption) ?_
            rotate_left
            · (intro w hSw; (try dsimp only at hSw); go_simp; (try with_reducible rfl))
            try simp only [Act.put, List.setIfInBounds_toArray, List.set_cons_zero, List.set_cons_succ]
            clear hcA
            refine wpAnyH_ready (rs := [23]) (by kernel_rfl) (by simp) ?_
            refine AllReadyH.cons (by rw [List.getElem?_toArray]; rfl) (fun K hK => ?_) AllReadyH.nil
            go_simp
            go_at_call 9
            (with_reducible refine (HAw.out _).mono ?_)
            rintro e wy ⟨rfl, hky⟩
            have hSn := hHeld.trans hky
            clear hky
            go_wp2_with fail
            refine hK.out _ _ hSn (fun hHeld => ?_)
            clear hK K hSn
            try simp only [Act.put, List.setIfInBounds_toArray, List.set_cons_zero, List.set_cons_succ]
            refine wpAnyH_take (i := 24) (v := ?_) (by rw [List.getElem?_toArray]; rfl) (by kernel_rfl) (by kernel_rfl) (by kernel_rfl) (fun _ _ _ h => h) (Or.inl ⟨by rfl, ?_⟩) (by assumption) ?_
            rotate_left
            · (intro w hSw; (try dsimp only at hSw); go_simp; (try with_reducible rfl))
            try simp only [Act.put, List.setIfInBounds_toArray, List.set_cons_zero, List.set_cons_succ]
            refine wpAnyH_take (i := 25) (v := ?_) (by rw [List.getElem?_toArray]; rfl) (by kernel_rfl) (by kernel_rfl) (by kernel_rfl) (fun _ _ _ h => h) (Or.inl ⟨by rfl, ?_⟩) (by assumption) ?_
            rotate_left
            · (intro w hSw; (try dsimp only at hSw); go_simp; (try with_reducible rfl))
            try simp only [Act.put, List.setIfInBounds_toArray, List.set_cons_zero, List.set_cons_succ]
            refine wpAnyH_done (by kernel_rfl) ?_ _
            refine NoPanic.normal ?_
            have HKe := Lib.hid (HK3.out.trans hHeld)
            clear hHeld
            go_wp2
            go_ret
            exact ⟨rfl, HKe.out.belowNo HT14.out.bel⟩
set_option maxRecDepth 100000 in
theorem Arg.bool {w : World} {t : TypeId} {v : Value} (ht : Tryz.prog.underlying t = some .bool) (h : Arg w t v) : ∃ b, v = .bool b := by
  obtain ⟨⟨base, hv⟩, _⟩ := h
  exact Go.WideShapes.okWide_bool ht hv
set_option maxRecDepth 100000 in
theorem deflateForms_law (v0 v1 v2 v3 : Value) (w : World) (r0 : Arg w 3 v0) (r1 : Arg w 22 v1) (r2 : Arg w 30 v2) (r3 : Arg w 4 v3) : Calls Tryz.prog 5 #[v0, v1, v2, v3] w fun e w' => e = .returned (.bool true) ∧ Below w.heap.size w w' := by
  obtain ⟨ah, rfl, _⟩ := Arg.int Tryz.underlying3 r0
  obtain ⟨ba, bc, b, rfl, hbl, hbm, hrb, hab, _⟩ := Arg.bytes Tryz.underlying22 r1
  obtain ⟨ta, tc, ts, rfl, hr, ha, hlc, hcm, _⟩ := toks_open r2
  obtain ⟨last, rfl⟩ := Arg.bool Tryz.underlying4 r3
  exact deflateForms_walk ah ba bc b.length b ta tc ts.length ts last w rfl hrb hab (by omega) rfl hr ha (by omega)
end Go.Proofs.YtdpegahcgaicnaaGreatDoor
