/-
  PaxBounds: as many bytes of records may be as the bound says, and no more.
-/
import Derived.Test.YtclcgiochjibjaaDoorZeros
import Derived.Test.YtclcgiochjibjaaDoorAwakeX
import Derived.Test.YtclcgiochjibjaaDoorMask
namespace Go.Proofs.YtclcgiochjibjaaDoor
open Go.RowKit
set_option linter.unusedVariables false
set_option linter.unusedSimpArgs false

theorem mask31 (n : Int) : bits .and .i64 n 31 = n % 32 := i64_mask n 5 (by decide)
/-- One record of around the bound. -/
theorem bound_rec (N : Nat) (h : 65510 ≤ N ∧ N ≤ 65541) : (recsB [([107], List.replicate N 120)]).length = N + 9 ∧ okR ([107], List.replicate N 120) = true ∧ encS [([107], List.replicate N 120)] = (if N + 9 ≤ 65536 then some (recsB [([107], List.replicate N 120)]) else none) := by
  have hr : (restB ([107], List.replicate N 120)).length = N + 4 := by rw [restB_len]; simp; omega
  have h1 := recB_len ([107], List.replicate N 120) (by omega)
  have h2 : recL ([107], List.replicate N 120) = N + 9 := by
    unfold recL
    rw [hr, show recD (N + 4) = 5 by unfold recD; rw [if_neg (by omega), if_neg (by omega), if_neg (by omega), if_neg (by omega), if_pos (by omega)]]
    omega
  have h3 : recsB [([107], List.replicate N 120)] = recB ([107], List.replicate N 120) := by simp [recsB]
  have h4 : okR ([107], List.replicate N 120) = true := by
    have : (List.replicate N (120 : UInt8)).any (· == 0) = false := by
      rw [List.any_eq_false]; intro x hx; rw [List.eq_of_mem_replicate hx]; decide
    simp only [okR, this]
    decide
  refine ⟨by rw [h3, h1, h2], h4, ?_⟩
  unfold encS
  have h5 : ([([107], List.replicate N 120)] : List KVb).all okR = true := by simp [h4]
  rw [h5, h3, h1, h2]
  simp

set_option maxRecDepth 20000 in
set_option maxHeartbeats 8000000 in
theorem paxBounds_law (v0 : Value) (w : World) (r0 : Arg w 3 v0) (htab : Pow10 w) (herr : ErrVars w) :
    Calls Tryd.prog 6 #[v0] w fun e w' => e = .returned (.bool true) ∧ Below w.heap.size w w' := by
  obtain ⟨x0, rfl, hx0⟩ := r0.int Tryd.underlying3
  have HT := Lib.hid htab; have HE := Lib.hid herr
  obtain ⟨i0, hi, hz0, hz1, hz2⟩ := info_parts info5
  have hm := mask31 x0
  obtain ⟨N, hN⟩ : ∃ N : Nat, (N : Int) = x0 % 32 + 65510 := ⟨(x0 % 32 + 65510).toNat, by omega⟩
  have hN1 : 65510 ≤ N ∧ N ≤ 65541 := by omega
  obtain ⟨b1, b2, b3⟩ := bound_rec N hN1
  have HB1 := Lib.hid b1; have HB2 := Lib.hid b2; have HB3 := Lib.hid b3
  clear b1 b2 b3 htab herr
  go_enter Tryd.func6, Tryd.ntmps6
  go_upto_region 2 with fail
  rw [← hN]
  clear hm hN hx0
  go_wp2_with (at_make; refine wpList_make_full _ rfl _ _ _ rfl 0 5 i0 (.int .u8 0) 1 Tryd.underlying25 hi hz0 hz1 .i64 .i64 _ _ N rfl rfl rfl rfl (by rw [hz2]; omega) (by unfold maxLen; omega) (Nat.zero_le _) ?_)
  intro w2 hown hgrow
  obtain ⟨G, hG⟩ : ∃ G, G = w.heap.size := ⟨_, rfl⟩
  rw [← hG] at hown ⊢
  have hown0 : w2.ownsRow 0 5 1 (.slice (some ⟨G, 0, none⟩) N N) N ((fillI (fun _ => 120) N 0).map (.int .u8)) := by
    rw [fill_zero, List.map_replicate, ← toList_madeCells_one]
    exact hown
  have HO0 := Lib.hid hown0; have HK0 := Lib.hid ((Kept.refl NoB w).grown hgrow (fun _ _ e => by cases e)); have HG := Lib.hid hG
  clear hown hgrow hown0 hG
  go_wp2
  go_loopw [19, 4] (fun v19 v4 wr => ∃ j : Nat, v19 = .int .i64 (j : Int) ∧ j ≤ N ∧ Hid (wr.ownsRow 0 5 1 (.slice (some ⟨G, 0, none⟩) N N) N ((fillI (fun _ => 120) N j).map (.int .u8))) ∧ Hid (Kept NoB w wr)) (fun v19 _ _ => N - (intOf v19).toNat)
  case atStart => exact ⟨0, rfl, by omega, HO0, HK0⟩
  case round =>
    obtain ⟨j, rfl, hj, HO, HK⟩ := hrel
    by_cases hlt : (j : Int) < N
    · have hst : (wr.setCell ⟨G, j, none⟩ (.int .u8 120)).ownsRow 0 5 1 (.slice (some ⟨G, 0, none⟩) N N) N ((fillI (fun _ => 120) N (j + 1)).map (.int .u8)) := by
        rw [← fill_set, List.map_set]
        exact (HO.out.stored j (.int .u8 120)).1
      have hkn : Kept NoB w (wr.setCell ⟨G, j, none⟩ (.int .u8 120)) := Kept.setCell (p := ⟨G, j, none⟩) HK.out (.inr (show w.heap.size ≤ G by rw [HG.out]; exact Nat.le_refl _)) _
      have hlr : j < ((fillI (fun _ => 120) N j).map (Value.int .u8)).length := by rw [List.length_map, fill_len]; omega
      have hcz : ∃ u, wr.cell? ⟨G, j, none⟩ = some u := ⟨_, by rw [HO.out.cellAt j (by omega), List.getElem?_eq_getElem hlr]⟩
      obtain ⟨u, hcz⟩ := hcz
      have hfz : wr.frozen? ⟨G, j, none⟩ = false := HO.out.frozenAt _
      have HSt := Lib.hid hst; have HKn := Lib.hid hkn
      clear hst hkn hlr
      go_wp2
      go_roundw
      case rel => exact ⟨j + 1, by go_num, by omega, HSt, HKn⟩
      case measure => simp [intOf]; omega
    · have hjN : j = N := by omega
      subst hjN
      have hrd : Reads wr (some ⟨G, 0, none⟩) (fillI (fun _ => 120) j j) := own_reads (n := j) (cap := j) (by rw [fill_len]; exact HO.out) (fill_len _ _ _).symm
      have hcv := conv_reads hrd (n := j) (cap := j) (fill_len _ _ _).symm (fun h => by cases h)
      have hfc : strOfNums (fillI (fun _ => 120) j j) = strB (List.replicate j 120) := fill_const 120 j
      rw [hfc] at hcv
      obtain ⟨V, hV⟩ : ∃ V, V = strB (List.replicate j 120) := ⟨_, rfl⟩
      rw [← hV] at hcv
      have HV := Lib.hid hV
      have hVs : V.size = j := by rw [hV, strB_size]; simp
      clear hrd hfc hV HO
      go_wp2_with fail
      clear hcv
      obtain ⟨w3, hw3⟩ : ∃ w3, w3 = wr.alloc (.cells #[.string ⟨#[107]⟩, .string V] 29) := ⟨_, rfl⟩
      have hk3 : Kept NoB wr w3 := by rw [hw3]; exact (Kept.refl _ _).alloc _
      have hc0 : w3.cell? ⟨wr.heap.size, 0, none⟩ = some (.string (strB [107])) := by rw [hw3]; exact cell_new 0 rfl
      have hc1 : w3.cell? ⟨wr.heap.size, 1, none⟩ = some (.string (strB (List.replicate j 120))) := by rw [hw3, ← HV.out]; exact cell_new 1 rfl
      rw [← hw3]
      have hr0 : RdK w3 w3.heap.size (some ⟨wr.heap.size, 0, none⟩) [([107], List.replicate j 120)] := rdk_one _ (World.block_lt_of_cell? w3 _ hc0) hc0 hc1
      have hK3 := HK.out.trans hk3
      have hE := encode_any (some ⟨wr.heap.size, 0, none⟩) 1 1 [([107], List.replicate j 120)] w3 rfl hr0 (by intro p hp; simp at hp; subst hp; simp; omega) (by decide) (by decide) (HT.out.keptNo hK3)
      have HE1 := Lib.hid hE; have HK3 := Lib.hid hK3
      clear hE hr0 hc0 hc1 hk3 hK3 hw3 hlt
      obtain ⟨m, hm⟩ : ∃ m, m = j + 9 := ⟨_, rfl⟩
      have hmi : (j : Int) + 9 = (m : Int) := by omega
      rw [← hm] at HB1 HB3
      have hm8 : 65519 ≤ m ∧ m ≤ 65550 := by omega
      have HM := Lib.hid hm
      clear hm
      refine HE1.out.mono ?_
      rintro e w4 (⟨hn, rfl, hk4⟩ | ⟨a, c, hs, rfl, hb⟩)
      · have hbig : ¬ m ≤ 65536 := by
          intro h
          rw [HB3.out, if_pos h] at hn
          cases hn
        have hgt : ¬ (m : Int) ≤ 65536 := by omega
        have HK4 := Lib.hid (HK3.out.trans hk4)
        clear hk4 hn hbig
        have HA := Lib.hid (awake18 w4 (HT.out.keptNo HK4.out) (HE.out.keptNo HK4.out))
        go_wp2_with fail
        refine HA.out.mono ?_
        rintro e w5 ⟨rfl, hk5⟩
        have HK5 := Lib.hid (HK4.out.trans hk5)
        clear hk5
        go_wp2
        go_ret
        exact ⟨rfl, HK5.out.belowNo (Below.refl _ _)⟩
      · have hsm : m ≤ 65536 := by
          by_cases h : m ≤ 65536
          · exact h
          · rw [HB3.out, if_neg h] at hs
            cases hs
        rw [HB1.out] at hb ⊢
        have hle : (m : Int) ≤ 65536 := by omega
        have HB := Lib.hid hb
        have hK4 := HK3.out.trans hb.kept
        have hcp := hb.cap
        have hD := decode_any a m c (recsB [([107], List.replicate j 120)]) w4 HB1.out.symm hb.reads (fun h => hcp.2.2 h) (by unfold maxLen; omega) (HT.out.keptNo hK4) (HE.out.keptNo hK4)
        have HD := Lib.hid hD; have HK4 := Lib.hid hK4; have HC := Lib.hid hcp
        clear hD hb hK4 hcp hs hsm
        go_wp2_with fail
        refine HD.out.mono ?_
        have hgood : Good (recsB [([107], List.replicate j 120)]) [([107], List.replicate j 120)] := ⟨rfl, by intro r hr; simp at hr; subst hr; exact HB2.out⟩
        rintro e w5 (⟨rs, a3, c3, hg, _, rfl, hs⟩ | ⟨hno, _⟩)
        rotate_left
        · rcases hno with h | h
          · have := HB1.out; omega
          · exact absurd hgood (h _)
        have hrs := hgood.unique hg (by have := HB1.out; omega)
        subst hrs
        obtain ⟨b3, off3, ha3, hb3, d0, d1⟩ := hs.reads 0 (by simp)
        subst ha3
        have D1 : Hid (w5.cell? ⟨b3, off3 + 1, none⟩ = some (.string V)) := Lib.hid (by rw [HV.out]; exact d1)
        have HK5 := Lib.hid (HK4.out.trans hs.kept)
        have HB5 := Lib.hid (HB.out.on hs.kept)
        clear hs hg d0 d1 hgood
        simp only [List.length_cons, List.length_nil]
        obtain ⟨g, ha⟩ := HB5.out.some (by intro e; have := congrArg List.length e; rw [HB1.out] at this; simp at this; omega)
        subst ha
        obtain ⟨z, hz⟩ : ∃ z : Nat, z = 65537 - m := ⟨_, rfl⟩
        have hzi : (65537 : Int) - (m : Int) = (z : Int) := by omega
        have hz20 : z ≤ 30 := by omega
        have HZ := Lib.hid hz
        clear hz
        go_wp2_with (at_builtin; first
          | refine wpList_by_row rfl (.tmp 63) (.tmp 64) rfl (by_empty (Kept.refl NoB w5)) rfl ⟨g, 0, none⟩ c m (recsB [([107], List.replicate j 120)]) HB1.out.symm rfl ((HB5.out.on ((Kept.refl NoB w5).alloc _)).reads) (by omega) ?_)
        intro a6 c6 w6 h6
        have HB6 := Lib.hid h6
        clear h6
        have hne : recsB [([107], List.replicate j 120)] ≠ [] := by
          intro e; have := congrArg List.length e; rw [HB1.out] at this; simp at this; omega
        have HNe := Lib.hid hne
        clear hne
        go_wp2_with (at_builtin; refine wpList_by_zeros rfl (.tmp 65) (.tmp 67) rfl HB6.out HNe.out rfl z rfl (by omega) (by omega) ?_)
        intro a7 c7 w7 h7
        have hK7 := HK5.out.trans h7.kept
        have hcp := h7.cap
        have hl7 : (recsB [([107], List.replicate j 120)] ++ List.replicate z 0).length = m + z := by rw [List.length_append, HB1.out, List.length_replicate]
        have hmz : 65536 < m + z := by have := HZ.out; omega
        have hD := decode_any a7 (m + z) c7 (recsB [([107], List.replicate j 120)] ++ List.replicate z 0) w7 hl7.symm h7.reads (fun h => hcp.2.2 h) (by unfold maxLen; omega) (HT.out.keptNo hK7) (HE.out.keptNo hK7)
        have HD7 := Lib.hid hD; have HK7 := Lib.hid hK7
        have D7 : w7.cell? ⟨b3, off3 + 1, none⟩ = some (.string V) := h7.kept.cell D1.out
        have HD7c := Lib.hid D7
        clear hD h7 hK7 hcp D7
        go_wp2_with fail
        refine HD7.out.mono ?_
        rintro e w8 (⟨rs, a8, c8, _, hle8, _⟩ | ⟨_, rfl, hk8⟩)
        · omega
        have D8 : w8.cell? ⟨b3, off3 + 1, none⟩ = some (.string V) := hk8.cell HD7c.out
        have D9 : w8.cell? ⟨b3, off3 + 0 + 1, none⟩ = some (.string V) := D8
        have HK8 := Lib.hid (HK7.out.trans hk8)
        clear hk8 hl7 hmz
        have HA := Lib.hid (awake18 w8 (HT.out.keptNo HK8.out) (HE.out.keptNo HK8.out))
        go_wp2_with fail
        refine HA.out.mono ?_
        rintro e w9 ⟨rfl, hk9⟩
        have HK9 := Lib.hid (HK8.out.trans hk9)
        clear hk9 D8 D9
        go_wp2
        go_ret
        exact ⟨rfl, HK9.out.belowNo (Below.refl _ _)⟩
end Go.Proofs.YtclcgiochjibjaaDoor
