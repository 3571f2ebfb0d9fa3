/-
  CrcTells: the check of any bytes is the document's, at once, in parts, and byte by byte.
-/
import Derived.Test.YtffoigacpnlkgaaCrcR
import Derived.Test.YtffoigacpnlkgaaMask
import Derived.Test.YtffoigacpnlkgaaCrcS
import Derived.Deep.RegionHeld3
import Derived.Deep.DrawnRows
namespace Go.Proofs.Ytffoigacpnlkgaa
open Go.RowKit
set_option linter.unusedVariables false
attribute [local go_sem ↓] Go.wp_at_zero Go.wp_at_succ

set_option maxRecDepth 100000 in
set_option maxHeartbeats 4000000 in
theorem crcTells_walk (ao : Option Addr) (cap len : Nat) (bs : List Int) (a : Int) (c0 : Nat) (w : World) (hlen : bs.length = len) (hr : Reads w ao bs) (hb : AllB bs) (h0 : ao = none → cap = 0) (hlc : len ≤ cap) (hm : cap ≤ maxLen) (hc0 : c0 < 4294967296) :
    Calls Try.prog 10 #[.slice ao len cap, .int .i64 a, .int .u32 c0] w fun e w' => e = .returned (.bool true) ∧ Below w.heap.size w w' := by
  unfold maxLen at hm
  have HLen := Lib.hid hlen; have HR := Lib.hid hr; have HB := Lib.hid hb; have H0 := Lib.hid h0; have HC0 := Lib.hid hc0
  clear hlen hr hb h0 hc0
  go_enter Try.func10, Try.ntmps10
  go_wp2_with fail
  refine (newt_any _).mono ?_
  rintro e w1 ⟨T, rfl, hT, hTf, hk1⟩
  have HT1 := Lib.hid hT; have HK1 := Lib.hid hk1; have HB1 := Lib.hid (hk1.belowNo (Below.refl _ _)); have HTf := Lib.hid hTf
  clear hT hk1 hTf
  by_cases h1000 : 1000 < len
  · go_wp2_with fail
    refine (awake2 _).mono ?_
    rintro e w2 ⟨rfl, hb2⟩
    have hb3 := HB1.out.trans (hb2.mono HB1.out.size)
    go_wp2
    go_ret
    exact ⟨rfl, hb3⟩
  · have hma := mask65535 a
    have hcv := conv_reads (HR.out.keptNo HK1.out) HLen.out.symm H0.out
    go_wp2_with fail
    refine (refUpdate_any 0 (strOfNums bs) _ (by decide) (by rw [strOfNums_size]; have := HLen.out; unfold maxLen; omega)).mono ?_
    rintro e w2 ⟨rfl, rfl⟩
    rw [bytesOf_nums bs HB.out]
    clear hcv
    go_wp2
    go_loopw [10, 11] (fun c i wr => ∃ j : Nat, j ≤ len ∧ i = .int .i64 j ∧ c = .int .u32 (crcOf c0 (nats (bs.take j)) : Nat) ∧ Kept NoB w1 wr) (fun _ i _ => len - (intOf i).toNat)
    case atStart => exact ⟨0, by omega, rfl, by rw [show crcOf c0 (nats (bs.take 0)) = c0 from crcOf_nil c0 HC0.out], Kept.refl _ _⟩
    case round =>
      obtain ⟨j, hj, rfl, rfl, hk⟩ := hrel
      have HK := Lib.hid hk; clear hk
      by_cases hlt : j < len
      · obtain ⟨b, off, hao, hbl, hcell⟩ := ((HR.out.keptNo HK1.out).keptNo HK.out).at (by have := HLen.out; omega)
        have hcj := hcell j (by have := HLen.out; omega)
        have hz := AllB.getD HB.out j
        have hcs : crcOf c0 (nats (bs.take (j + 1))) = crcOf (crcOf c0 (nats (bs.take j))) (nats [bs.getD j 0]) := by
          rw [← crcOf_append _ _ _ (fun x hx => nats_lt (HB.out.take j) x hx), ← nats_append]
          congr 2
          have hl : j < bs.length := by have := HLen.out; omega
          rw [List.take_succ_eq_append_getElem hl]
          simp [List.getD, hl]
        have HCS := Lib.hid hcs; clear hcs
        have hcl := crcOf_lt c0 (nats (bs.take j))
        generalize crcOf c0 (nats (bs.take j)) = cr at hcl HCS ⊢
        generalize bs.getD j 0 = z at hcj hz HCS
        have HCl := Lib.hid hcl; have HZ := Lib.hid hz
        clear hcl hcell
        subst hao
        go_wp2_with fail
        refine (update_any _ T _ _ _ _ [z] (HT1.out.keptNo (HK.out.alloc _)) ?_ (by intro y hy; simp at hy; subst hy; exact HZ.out) rfl HCl.out (by simp)).mono ?_
        · exact lit_reads (t := 5) (fr := (0, 0)) (cs := #[.int .u8 z]) _ (heap_alloc_new _ _) rfl
        rintro e w3 ⟨rfl, hk3⟩
        have HK3 := Lib.hid ((HK.out.alloc _).trans hk3)
        clear hk3
        go_wp2
        go_roundw
        case rel => exact ⟨j + 1, by omega, by go_num, by rw [HCS.out], HK3.out⟩
        case measure => simp [intOf]; omega
      · have hjl : bs.take j = bs := List.take_of_length_le (by have := HLen.out; omega)
        rw [hjl]
        clear hjl
        obtain ⟨K, hK⟩ : ∃ K : Nat, (K : Int) = a % 65536 % ((len : Int) + 1) := ⟨(a % 65536 % ((len : Int) + 1)).toNat, Int.toNat_of_nonneg (Int.emod_nonneg _ (by omega))⟩
        have hKl : (K : Int) < (len : Int) + 1 := by rw [hK]; exact Int.emod_lt_of_pos _ (by omega)
        go_wp2_with fail
        rw [← hK]
        have HKe := Lib.hid hK; clear hK
        have HR1 := Lib.hid (HR.out.keptNo HK1.out)
        have hcv : ∀ W, Kept NoB w1 W → (convert 22 9 (.slice ao len cap)).run Try.prog W = .ok (.string (strOfNums bs)) W := fun W hk => conv_reads (HR1.out.keptNo hk) HLen.out.symm H0.out
        have hbn := bytesOf_nums bs HB.out
        have HRu : Hid (∀ W, Calls Try.prog 42 #[.int .u32 c0, .string (strOfNums bs)] W fun e w' => e = .returned (.int .u32 (crcOf c0 (nats bs) : Nat)) ∧ W = w') := fun W => by
          have h := refUpdate_any c0 (strOfNums bs) W HC0.out (by rw [strOfNums_size]; have := HLen.out; unfold maxLen; omega)
          rwa [hbn] at h
        clear hbn
        have HS1 : Hid (∀ W k, Kept NoB w1 W → W.cell? ⟨k, 0, none⟩ = some (.slice ao len cap) → Calls Try.prog 40 #[.pointer (some ⟨T, 0, none⟩), .slice (some ⟨k, 0, none⟩) 1 1] W fun e w' => e = .returned (.int .u32 (crcOf 0 (nats bs) : Nat)) ∧ Kept NoB W w') :=
          fun W k hk hc => sum_one bs (HT1.out.keptNo hk) hc HLen.out (HR1.out.keptNo hk) HB.out hlc (by unfold maxLen; omega) H0.out
        have HU : Hid (∀ W, Kept NoB w1 W → Calls Try.prog 41 #[.pointer (some ⟨T, 0, none⟩), .int .u32 c0, .slice ao len cap] W fun e w' => e = .returned (.int .u32 (crcOf c0 (nats bs) : Nat)) ∧ Kept NoB W w') :=
          fun W hk => update_any W T ao cap len c0 bs (HT1.out.keptNo hk) (HR1.out.keptNo hk) HB.out HLen.out HC0.out (by omega)
        have HU0 : Hid (∀ W, Kept NoB w1 W → Calls Try.prog 41 #[.pointer (some ⟨T, 0, none⟩), .int .u32 c0, .slice none 0 0] W fun e w' => e = .returned (.int .u32 c0) ∧ Kept NoB W w') := fun W hk => by
          have h := update_any W T none 0 0 c0 [] (HT1.out.keptNo hk) ⟨(fun _ => rfl), (fun a ha => by cases ha)⟩ (by intro b hb; cases hb) rfl HC0.out (by omega)
          rwa [show crcOf c0 (nats []) = c0 from crcOf_nil c0 HC0.out] at h
        have hKi : (0 : Int) ≤ K := by omega
        have hKcap2 : (K : Int) ≤ cap := by omega
        have hlci : (len : Int) ≤ cap := by omega
        have hKl2 : (K : Int) ≤ len := by omega
        by_cases hKc : cap = K
        · have hlk : len = K := by omega
          subst hKc hlk
          have HS2 : Hid (∀ W k, Kept NoB w1 W → W.cell? ⟨k, 0, none⟩ = some (.slice ao len len) → W.cell? ⟨k, 1, none⟩ = some (.slice ao 0 0) →
              Calls Try.prog 40 #[.pointer (some ⟨T, 0, none⟩), .slice (some ⟨k, 0, none⟩) 2 2] W fun e w' => e = .returned (.int .u32 (crcOf 0 (nats bs) : Nat)) ∧ Kept NoB W w') :=
            fun W k hk hc hc2 => sum_two bs bs [] (List.append_nil _) (HT1.out.keptNo hk) hc HLen.out (HR1.out.keptNo hk) (Nat.le_refl _) (by unfold maxLen; omega) H0.out
              hc2 rfl ⟨(fun _ => rfl), (fun a _ i hi => by simp at hi)⟩ (Nat.le_refl _) (Nat.zero_le _) (fun _ => rfl) HB.out
          go_region_held3 (fun w' => Kept NoB w1 w') (first | assumption | exact Kept.drew (by assumption) | exact Kept.alloc (by assumption) _ | exact Kept.trans (by assumption) hkn | exact Kept.ofBelow (by assumption) hbn)
            (first
              | (go_at_call 40; ((with_reducible refine (HS1.out _ _ (by assumption) ?_).mono ?_); (simp); rintro e wn ⟨rfl, hkn⟩))
              | (go_at_call 40; ((with_reducible refine (HS2.out _ _ (by assumption) ?_ ?_).mono ?_); (simp); (simp); rintro e wn ⟨rfl, hkn⟩))
              | (go_at_call 41; ((with_reducible refine (HU.out _ (by assumption)).mono ?_); rintro e wn ⟨rfl, hkn⟩))
              | (go_at_call 41; ((with_reducible refine (HU0.out _ (by assumption)).mono ?_); rintro e wn ⟨rfl, hkn⟩))
              | (go_at_call 42; ((with_reducible refine (HRu.out _).mono ?_); rintro e wn ⟨rfl, rfl⟩))
              | (go_at_call 39; ((with_reducible refine (awake2 _).mono ?_); rintro e wn ⟨rfl, hbn⟩)))
          clear hcv
          go_wp2
          go_ret
          exact ⟨rfl, Kept.belowNo (by assumption) HB1.out⟩
        · obtain ⟨x, rfl⟩ : ∃ x, ao = some x := by
            cases ao with
            | none => have := H0.out rfl; omega
            | some x => exact ⟨x, rfl⟩
          have hKcap : (K : Int) < cap := by omega
          have HS2 : Hid (∀ W k, Kept NoB w1 W → W.cell? ⟨k, 0, none⟩ = some (.slice (some x) K cap) → W.cell? ⟨k, 1, none⟩ = some (.slice (some (x.add K)) (len - K) (cap - K)) →
              Calls Try.prog 40 #[.pointer (some ⟨T, 0, none⟩), .slice (some ⟨k, 0, none⟩) 2 2] W fun e w' => e = .returned (.int .u32 (crcOf 0 (nats bs) : Nat)) ∧ Kept NoB W w') :=
            fun W k hk hc hc2 => sum_two bs (bs.take K) (bs.drop K) (List.take_append_drop _ _) (HT1.out.keptNo hk) hc (by rw [List.length_take]; have := HLen.out; omega) (reads_take K (HR1.out.keptNo hk)) (by omega) (by unfold maxLen; omega) (fun h => by cases h)
              hc2 (by rw [List.length_drop]; have := HLen.out; omega) (reads_drop K (HR1.out.keptNo hk)) (by omega) (by unfold maxLen; omega) (fun h => by cases h) HB.out
          go_region_held3 (fun w' => Kept NoB w1 w') (first | assumption | exact Kept.drew (by assumption) | exact Kept.alloc (by assumption) _ | exact Kept.trans (by assumption) hkn | exact Kept.ofBelow (by assumption) hbn)
            (first
              | (go_at_call 40; ((with_reducible refine (HS1.out _ _ (by assumption) ?_).mono ?_); (simp); rintro e wn ⟨rfl, hkn⟩))
              | (go_at_call 40; ((with_reducible refine (HS2.out _ _ (by assumption) ?_ ?_).mono ?_); (simp); (simp); rintro e wn ⟨rfl, hkn⟩))
              | (go_at_call 41; ((with_reducible refine (HU.out _ (by assumption)).mono ?_); rintro e wn ⟨rfl, hkn⟩))
              | (go_at_call 41; ((with_reducible refine (HU0.out _ (by assumption)).mono ?_); rintro e wn ⟨rfl, hkn⟩))
              | (go_at_call 42; ((with_reducible refine (HRu.out _).mono ?_); rintro e wn ⟨rfl, rfl⟩))
              | (go_at_call 39; ((with_reducible refine (awake2 _).mono ?_); rintro e wn ⟨rfl, hbn⟩)))
          clear hcv
          go_wp2
          go_ret
          exact ⟨rfl, Kept.belowNo (by assumption) HB1.out⟩

theorem crcTells_law (v0 v1 v2 : Value) (w : World) (r0 : Arg w 22 v0) (r1 : Arg w 3 v1) (r2 : Arg w 26 v2) :
    Calls Try.prog 10 #[v0, v1, v2] w fun e w' => e = .returned (.bool true) ∧ Below w.heap.size w w' := by
  obtain ⟨ao, cap, bs, rfl, hc, hm, hr, hb, h0⟩ := r0.bytes Try.underlying22
  obtain ⟨a, rfl, ha⟩ := r1.int Try.underlying3
  obtain ⟨n, rfl, hn⟩ := r2.int Try.underlying26
  have hu := u32_bd hn
  obtain ⟨c, rfl⟩ := Int.eq_ofNat_of_zero_le hu.1
  exact crcTells_walk ao cap bs.length bs a c w rfl hr hb h0 hc hm (by omega)
end Go.Proofs.Ytffoigacpnlkgaa
