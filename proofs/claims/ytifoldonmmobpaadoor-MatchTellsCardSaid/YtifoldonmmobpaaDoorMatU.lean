/-
  The document's Tokens.
-/
import Derived.Test.YtifoldonmmobpaaDoorMatT
import Derived.Test.YtifoldonmmobpaaDoorMatS
namespace Go.Proofs.YtifoldonmmobpaaDoor
open Go.RowKit
set_option linter.unusedVariables false
set_option linter.unusedSimpArgs false

theorem longV_nat (L : List UInt8) (a : Nat) (h : a ≤ L.length) : longV L (a : Int) = longN L a := by
  by_cases ha : a < L.length
  · rw [longV, if_neg (by omega)]; rfl
  · rw [longV, if_pos (by omega), long_of (n := 2) (d := 0) (.inl ⟨rfl, rfl, fun d h1 h2 => by have := cand_le L a d; rw [mostN] at this; omega⟩), if_pos rfl]
set_option maxRecDepth 100000 in
set_option maxHeartbeats 16000000 in
theorem rtok_any (S : ByteArray) (L : List UInt8) (n : Nat) (lv : Int) (w : World) (hS : S = ⟨L.toArray⟩) (hn : n = L.length) (hn3 : n ≤ 32768) (hlv : -9223372036854775808 ≤ lv ∧ lv ≤ 9223372036854775807) :
    Calls Tryd.prog 14 #[.string S, .int .i64 lv] w fun e w' => ∃ a2 c2, e = .returned (.slice a2 (restT lv L 0).length c2) ∧ TkSt w.heap.size w' a2 (restT lv L 0).length c2 (restT lv L 0) ∧ Kept NoB w w' := by
  have hSz : S.size = n := by rw [hS, hn]; rfl
  have HSat := Lib.hid (ba_get L S hS)
  have HLg : Hid (∀ (W : World) (a : Nat), a ≤ n → Calls Tryd.prog 13 #[.string S, .int .i64 (a : Int)] W fun e w' => e = .returned (.tuple #[.int .i64 ((longN L a).1 : Int), .int .i64 ((longN L a).2 : Int)]) ∧ Kept NoB W w') := Lib.hid (fun W a ha => by
    have := rlong_any S L n (a : Int) W hS hn hn3 (by omega) (by omega)
    rwa [longV_nat L a (by omega)] at this)
  have HN := Lib.hid hn
  obtain ⟨lo, hlo⟩ : ∃ lo, lo = w.heap.size := ⟨_, rfl⟩
  have HLo := Lib.hid hlo
  rw [← hlo]
  obtain ⟨TS, hTS⟩ : ∃ TS, TS = restT lv L 0 := ⟨_, rfl⟩
  rw [← hTS]
  have HD0 : Hid ([] ++ restT lv L 0 = TS) := Lib.hid (by rw [hTS]; rfl)
  have HT0 : Hid (TkSt lo w none 0 0 []) := Lib.hid (TkSt.start lo w)
  clear hS hn hTS hlo
  go_enter Tryd.func14, Tryd.ntmps14
  go_wp2_with fail
  go_loopw [5, 6] (fun v5 v6 wr => ∃ (i : Nat) (a2 : Option Addr) (m c2 : Nat) (out : List Tk), v5 = .slice a2 m c2 ∧ v6 = .int .i64 (i : Int) ∧ i ≤ n ∧ m ≤ i ∧ Hid (TkSt lo wr a2 m c2 out) ∧ Hid (Kept NoB w wr) ∧ Hid (out ++ restT lv L i = TS)) (fun _ v6 _ => n - (intOf v6).toNat)
  case atStart => exact ⟨0, none, 0, 0, [], rfl, rfl, by omega, by omega, HT0, Lib.hid (Kept.refl _ _), HD0⟩
  case round =>
    obtain ⟨i, a2, m, c2, out, rfl, rfl, hi, hm, HTk, HK, HD⟩ := hrel
    by_cases hlt : i < n
    · have hli : (i : Int) < (n : Int) := by omega
      have hrs := rest_step lv L i (by have := HN.out; omega)
      have HRs := Lib.hid hrs
      obtain ⟨x, hx⟩ : ∃ x : Int, x = ((L.getD i 0).toNat : Int) := ⟨_, rfl⟩
      have HX : Hid (litT L i = ⟨0, 0, x⟩) := Lib.hid (by rw [litT, hx])
      have c1 : ∀ W : World, (Instr.index 9 (.string S) (.int .i64 (i : Int))).run Tryd.prog W = .ok (.int .u8 x) W := fun W => by
        rw [run_index_string W _ _ _ _ Tryd.underlying9, dif_pos ⟨by omega, by rw [hSz]; exact hli⟩]
        have := HSat.out i (by omega)
        rw [hx, ← this]
        rfl
      clear hrs hx
      by_cases hl1 : lv < 1
      · have hl1' : ¬ 1 ≤ lv := by omega
        have hl7 : ¬ 7 ≤ lv := by omega
        have hl7d : decide (7 ≤ lv) = false := decide_eq_false hl7
        have HD9 : Hid ((out ++ [Tk.mk 0 0 x]) ++ restT lv L (i + 1) = TS) := Lib.hid (by
          have h := HD.out
          rw [HRs.out, step_lit (by rw [lazyN, if_pos hl1]), HX.out] at h
          rw [← h]; simp)
        obtain ⟨q, hq⟩ : ∃ q, q = wr.heap.size := ⟨_, rfl⟩
        obtain ⟨wA, hwA⟩ : ∃ wA, wA = wr.alloc (.cells #[.int .i64 0, .int .i64 0, .int .u8 x] 26) := ⟨_, rfl⟩
        have hkA : Kept NoB wr wA := by rw [hwA]; exact (Kept.refl NoB _).alloc _
        have hA0 : wA.cell? ⟨q, 0, none⟩ = some (.int .i64 (Tk.mk 0 0 x).l) := by rw [hwA]; exact cell_new 0 hq
        have hA1 : wA.cell? ⟨q, 1, none⟩ = some (.int .i64 (Tk.mk 0 0 x).d) := by rw [hwA]; exact cell_new 1 hq
        have hA2 : wA.cell? ⟨q, 2, none⟩ = some (.int .u8 (Tk.mk 0 0 x).c) := by rw [hwA]; exact cell_new 2 hq
        have HA := Lib.hid (⟨hA0, hA1, hA2⟩ : _ ∧ _ ∧ _)
        have HTA := Lib.hid (HTk.out.keptS ((Kept.refl NoB wr).trans hkA) (fun _ _ h => h))
        have HKA := Lib.hid (HK.out.trans ((Kept.refl NoB wr).trans hkA))
        have hsA : lo ≤ wA.heap.size := by have h1 := HKA.out.size; have h2 := HLo.out; omega
        clear hkA hA0 hA1 hA2
        go_wp2_with (at_builtin; rw [← hq, ← hwA]; clear hwA hq; refine wpList_tk rfl (.tmp 41) (.tmp 46) rfl HTA.out hsA rfl q 1 (Tk.mk 0 0 x) rfl HA.out.1 HA.out.2.1 HA.out.2.2 (by omega) ?_)
        intro a9 c9 w9 h9 hk9
        have HT9 := Lib.hid h9
        have HK9 := Lib.hid ((HKA.out.dom.trans hk9).mono (fun k hk e => by have := HLo.out; have h7 : lo ≤ k := e; omega) : Kept NoB w w9)
        clear h9 hk9
        go_wp2
        go_roundw
        case rel => exact ⟨i + 1, a9, m + 1, c9, _, rfl, by go_num, (by have := HN.out; omega), by omega, HT9, HK9, HD9⟩
        case measure => simp [intOf] <;> omega
      · have hl1' : 1 ≤ lv := by omega
        have hbd := long_bd L i (by have := HN.out; omega)
        have HC0 := HLg.out wr i hi
        obtain ⟨n1, hn1⟩ : ∃ n1, n1 = (longN L i).1 := ⟨_, rfl⟩
        obtain ⟨d1, hd1⟩ : ∃ d1, d1 = (longN L i).2 := ⟨_, rfl⟩
        rw [← hn1, ← hd1] at HC0 hbd
        have HN1 : Hid (longN L i = (n1, d1)) := Lib.hid (by rw [hn1, hd1])
        have HC := Lib.hid HC0
        have hbd1 : i + n1 ≤ n := by have := HN.out; omega
        clear HC0 hn1 hd1 hbd
        go_wp2_with fail
        with_reducible refine HC.out.mono ?_
        rintro e w3 ⟨rfl, hk3⟩
        have HK3 := Lib.hid hk3
        clear hk3 HC
        by_cases hA : 0 < n1 ∧ 7 ≤ lv
        · obtain ⟨hA1, hA2⟩ := hA
          have hA1i : (0 : Int) < (n1 : Int) := by omega
          have hA1d : decide (7 ≤ lv) = true := decide_eq_true hA2
          have hc0 := HLg.out w3 (i + 1) (by omega)
          rw [show ((i + 1 : Nat) : Int) = (i : Int) + 1 by omega] at hc0
          obtain ⟨n2, hn2⟩ : ∃ n2, n2 = (longN L (i + 1)).1 := ⟨_, rfl⟩
          obtain ⟨d2, hd2⟩ : ∃ d2, d2 = (longN L (i + 1)).2 := ⟨_, rfl⟩
          rw [← hn2, ← hd2] at hc0
          have HC := Lib.hid hc0
          have HL2 : Hid (longN L (i + 1) = (n2, d2)) := Lib.hid (by rw [hn2, hd2])
          have HLz : Hid (lazyN lv L i = if n1 < n2 then (0, 0) else (n1, d1)) := Lib.hid (by
            unfold lazyN
            rw [if_neg (show ¬ lv < 1 by omega), HN1.out, HL2.out]
            by_cases h : n1 < n2
            · rw [if_pos ⟨hA2, hA1, h⟩, if_pos h]
            · rw [if_neg (fun h2 => h h2.2.2), if_neg h])
          clear hn2 hd2 hc0
          go_wp2_with fail
          with_reducible refine HC.out.mono ?_
          rintro e w4 ⟨rfl, hk4⟩
          have HK4 := Lib.hid (HK3.out.trans hk4)
          clear hk4 HC
          by_cases hlz : n1 < n2
          · have hlzi : (n1 : Int) < (n2 : Int) := by omega
            have HD9 : Hid ((out ++ [Tk.mk 0 0 x]) ++ restT lv L (i + 1) = TS) := Lib.hid (by
              have h := HD.out
              rw [HRs.out, step_lit (by rw [HLz.out, if_pos hlz]), HX.out] at h
              rw [← h]; simp)
            obtain ⟨q, hq⟩ : ∃ q, q = w4.heap.size := ⟨_, rfl⟩
            obtain ⟨wA, hwA⟩ : ∃ wA, wA = w4.alloc (.cells #[.int .i64 0, .int .i64 0, .int .u8 x] 26) := ⟨_, rfl⟩
            have hkA : Kept NoB w4 wA := by rw [hwA]; exact (Kept.refl NoB _).alloc _
            have hA0 : wA.cell? ⟨q, 0, none⟩ = some (.int .i64 (Tk.mk 0 0 x).l) := by rw [hwA]; exact cell_new 0 hq
            have hA1 : wA.cell? ⟨q, 1, none⟩ = some (.int .i64 (Tk.mk 0 0 x).d) := by rw [hwA]; exact cell_new 1 hq
            have hA2 : wA.cell? ⟨q, 2, none⟩ = some (.int .u8 (Tk.mk 0 0 x).c) := by rw [hwA]; exact cell_new 2 hq
            have HA := Lib.hid (⟨hA0, hA1, hA2⟩ : _ ∧ _ ∧ _)
            have HTA := Lib.hid (HTk.out.keptS (HK4.out.trans hkA) (fun _ _ h => h))
            have HKA := Lib.hid (HK.out.trans (HK4.out.trans hkA))
            have hsA : lo ≤ wA.heap.size := by have h1 := HKA.out.size; have h2 := HLo.out; omega
            clear hkA hA0 hA1 hA2
            go_wp2_with (at_builtin; rw [← hq, ← hwA]; clear hwA hq; refine wpList_tk rfl (.tmp 41) (.tmp 46) rfl HTA.out hsA rfl q 1 (Tk.mk 0 0 x) rfl HA.out.1 HA.out.2.1 HA.out.2.2 (by omega) ?_)
            intro a9 c9 w9 h9 hk9
            have HT9 := Lib.hid h9
            have HK9 := Lib.hid ((HKA.out.dom.trans hk9).mono (fun k hk e => by have := HLo.out; have h7 : lo ≤ k := e; omega) : Kept NoB w w9)
            clear h9 hk9
            go_wp2
            go_roundw
            case rel => exact ⟨i + 1, a9, m + 1, c9, _, rfl, by go_num, (by have := HN.out; omega), by omega, HT9, HK9, HD9⟩
            case measure => simp [intOf] <;> omega
          · have hlzi : ¬ (n1 : Int) < (n2 : Int) := by omega
            have hn0 : ((n1 : Int) == 0) = false := by simp; omega
            have HLy : Hid (lazyN lv L i = (n1, d1)) := Lib.hid (by rw [HLz.out, if_neg hlz])
            have HD9 : Hid ((out ++ [Tk.mk n1 d1 0]) ++ restT lv L (i + n1) = TS) := Lib.hid (by
              have h := HD.out
              rw [HRs.out, step_tok (by rw [HLy.out]; simp only; omega), HLy.out] at h
              rw [← h]; simp)
            obtain ⟨q, hq⟩ : ∃ q, q = w4.heap.size := ⟨_, rfl⟩
            obtain ⟨wA, hwA⟩ : ∃ wA, wA = w4.alloc (.cells #[.int .i64 (n1 : Int), .int .i64 (d1 : Int), .int .u8 0] 26) := ⟨_, rfl⟩
            have hkA : Kept NoB w4 wA := by rw [hwA]; exact (Kept.refl NoB _).alloc _
            have hA0 : wA.cell? ⟨q, 0, none⟩ = some (.int .i64 (Tk.mk n1 d1 0).l) := by rw [hwA]; exact cell_new 0 hq
            have hA1 : wA.cell? ⟨q, 1, none⟩ = some (.int .i64 (Tk.mk n1 d1 0).d) := by rw [hwA]; exact cell_new 1 hq
            have hA2 : wA.cell? ⟨q, 2, none⟩ = some (.int .u8 (Tk.mk n1 d1 0).c) := by rw [hwA]; exact cell_new 2 hq
            have HA := Lib.hid (⟨hA0, hA1, hA2⟩ : _ ∧ _ ∧ _)
            have HTA := Lib.hid (HTk.out.keptS (HK4.out.trans hkA) (fun _ _ h => h))
            have HKA := Lib.hid (HK.out.trans (HK4.out.trans hkA))
            have hsA : lo ≤ wA.heap.size := by have h1 := HKA.out.size; have h2 := HLo.out; omega
            clear hkA hA0 hA1 hA2
            go_wp2_with (at_builtin; rw [← hq, ← hwA]; clear hwA hq; refine wpList_tk rfl (.tmp 50) (.tmp 54) rfl HTA.out hsA rfl q 1 (Tk.mk n1 d1 0) rfl HA.out.1 HA.out.2.1 HA.out.2.2 (by omega) ?_)
            intro a9 c9 w9 h9 hk9
            have HT9 := Lib.hid h9
            have HK9 := Lib.hid ((HKA.out.dom.trans hk9).mono (fun k hk e => by have := HLo.out; have h7 : lo ≤ k := e; omega) : Kept NoB w w9)
            clear h9 hk9
            go_wp2
            go_roundw
            case rel => exact ⟨i + n1, a9, m + 1, c9, _, rfl, by go_num, (by have := HN.out; omega), by omega, HT9, HK9, HD9⟩
            case measure => simp [intOf] <;> omega
        · have HLz : Hid (lazyN lv L i = (n1, d1)) := Lib.hid (by
            unfold lazyN
            rw [if_neg (show ¬ lv < 1 by omega), HN1.out]
            by_cases h : n1 = 0
            · rw [if_neg (fun h2 => by have := h2.2.1; simp only at this; omega)]
            · rw [if_neg (fun h2 => hA ⟨by omega, h2.1⟩)])
          by_cases h0 : n1 = 0
          · have hA1i : ¬ (0 : Int) < (n1 : Int) := by omega
            have hn0 : ((n1 : Int) == 0) = true := by rw [h0]; rfl
            have hzz : Hid ((lazyN lv L i).1 = 0) := Lib.hid (by rw [HLz.out]; exact h0)
            clear h0 hA
            rcases Classical.em (7 ≤ lv) with hA7 | hA7
            · have hA7d : decide (7 ≤ lv) = true := decide_eq_true hA7
              have HD9 : Hid ((out ++ [Tk.mk 0 0 x]) ++ restT lv L (i + 1) = TS) := Lib.hid (by
                have h := HD.out
                rw [HRs.out, step_lit (hzz.out), HX.out] at h
                rw [← h]; simp)
              obtain ⟨q, hq⟩ : ∃ q, q = w3.heap.size := ⟨_, rfl⟩
              obtain ⟨wA, hwA⟩ : ∃ wA, wA = w3.alloc (.cells #[.int .i64 0, .int .i64 0, .int .u8 x] 26) := ⟨_, rfl⟩
              have hkA : Kept NoB w3 wA := by rw [hwA]; exact (Kept.refl NoB _).alloc _
              have hA0 : wA.cell? ⟨q, 0, none⟩ = some (.int .i64 (Tk.mk 0 0 x).l) := by rw [hwA]; exact cell_new 0 hq
              have hA1 : wA.cell? ⟨q, 1, none⟩ = some (.int .i64 (Tk.mk 0 0 x).d) := by rw [hwA]; exact cell_new 1 hq
              have hA2 : wA.cell? ⟨q, 2, none⟩ = some (.int .u8 (Tk.mk 0 0 x).c) := by rw [hwA]; exact cell_new 2 hq
              have HA := Lib.hid (⟨hA0, hA1, hA2⟩ : _ ∧ _ ∧ _)
              have HTA := Lib.hid (HTk.out.keptS (HK3.out.trans hkA) (fun _ _ h => h))
              have HKA := Lib.hid (HK.out.trans (HK3.out.trans hkA))
              have hsA : lo ≤ wA.heap.size := by have h1 := HKA.out.size; have h2 := HLo.out; omega
              clear hkA hA0 hA1 hA2
              go_wp2_with (at_builtin; rw [← hq, ← hwA]; clear hwA hq; refine wpList_tk rfl (.tmp 41) (.tmp 46) rfl HTA.out hsA rfl q 1 (Tk.mk 0 0 x) rfl HA.out.1 HA.out.2.1 HA.out.2.2 (by omega) ?_)
              intro a9 c9 w9 h9 hk9
              have HT9 := Lib.hid h9
              have HK9 := Lib.hid ((HKA.out.dom.trans hk9).mono (fun k hk e => by have := HLo.out; have h7 : lo ≤ k := e; omega) : Kept NoB w w9)
              clear h9 hk9
              go_wp2
              go_roundw
              case rel => exact ⟨i + 1, a9, m + 1, c9, _, rfl, by go_num, (by have := HN.out; omega), by omega, HT9, HK9, HD9⟩
              case measure => simp [intOf] <;> omega
            · have hA7d : decide (7 ≤ lv) = false := decide_eq_false hA7
              have HD9 : Hid ((out ++ [Tk.mk 0 0 x]) ++ restT lv L (i + 1) = TS) := Lib.hid (by
                have h := HD.out
                rw [HRs.out, step_lit (hzz.out), HX.out] at h
                rw [← h]; simp)
              obtain ⟨q, hq⟩ : ∃ q, q = w3.heap.size := ⟨_, rfl⟩
              obtain ⟨wA, hwA⟩ : ∃ wA, wA = w3.alloc (.cells #[.int .i64 0, .int .i64 0, .int .u8 x] 26) := ⟨_, rfl⟩
              have hkA : Kept NoB w3 wA := by rw [hwA]; exact (Kept.refl NoB _).alloc _
              have hA0 : wA.cell? ⟨q, 0, none⟩ = some (.int .i64 (Tk.mk 0 0 x).l) := by rw [hwA]; exact cell_new 0 hq
              have hA1 : wA.cell? ⟨q, 1, none⟩ = some (.int .i64 (Tk.mk 0 0 x).d) := by rw [hwA]; exact cell_new 1 hq
              have hA2 : wA.cell? ⟨q, 2, none⟩ = some (.int .u8 (Tk.mk 0 0 x).c) := by rw [hwA]; exact cell_new 2 hq
              have HA := Lib.hid (⟨hA0, hA1, hA2⟩ : _ ∧ _ ∧ _)
              have HTA := Lib.hid (HTk.out.keptS (HK3.out.trans hkA) (fun _ _ h => h))
              have HKA := Lib.hid (HK.out.trans (HK3.out.trans hkA))
              have hsA : lo ≤ wA.heap.size := by have h1 := HKA.out.size; have h2 := HLo.out; omega
              clear hkA hA0 hA1 hA2
              go_wp2_with (at_builtin; rw [← hq, ← hwA]; clear hwA hq; refine wpList_tk rfl (.tmp 41) (.tmp 46) rfl HTA.out hsA rfl q 1 (Tk.mk 0 0 x) rfl HA.out.1 HA.out.2.1 HA.out.2.2 (by omega) ?_)
              intro a9 c9 w9 h9 hk9
              have HT9 := Lib.hid h9
              have HK9 := Lib.hid ((HKA.out.dom.trans hk9).mono (fun k hk e => by have := HLo.out; have h7 : lo ≤ k := e; omega) : Kept NoB w w9)
              clear h9 hk9
              go_wp2
              go_roundw
              case rel => exact ⟨i + 1, a9, m + 1, c9, _, rfl, by go_num, (by have := HN.out; omega), by omega, HT9, HK9, HD9⟩
              case measure => simp [intOf] <;> omega
          · have hn0 : ((n1 : Int) == 0) = false := by simp; omega
            have hA1i : (0 : Int) < (n1 : Int) := by omega
            have hA2 : ¬ 7 ≤ lv := fun h => hA ⟨by omega, h⟩
            have hA2d : decide (7 ≤ lv) = false := decide_eq_false hA2
            clear hA
            have HD9 : Hid ((out ++ [Tk.mk n1 d1 0]) ++ restT lv L (i + n1) = TS) := Lib.hid (by
              have h := HD.out
              rw [HRs.out, step_tok (by rw [HLz.out]; simp only; omega), HLz.out] at h
              rw [← h]; simp)
            obtain ⟨q, hq⟩ : ∃ q, q = w3.heap.size := ⟨_, rfl⟩
            obtain ⟨wA, hwA⟩ : ∃ wA, wA = w3.alloc (.cells #[.int .i64 (n1 : Int), .int .i64 (d1 : Int), .int .u8 0] 26) := ⟨_, rfl⟩
            have hkA : Kept NoB w3 wA := by rw [hwA]; exact (Kept.refl NoB _).alloc _
            have hA0 : wA.cell? ⟨q, 0, none⟩ = some (.int .i64 (Tk.mk n1 d1 0).l) := by rw [hwA]; exact cell_new 0 hq
            have hA1 : wA.cell? ⟨q, 1, none⟩ = some (.int .i64 (Tk.mk n1 d1 0).d) := by rw [hwA]; exact cell_new 1 hq
            have hA2 : wA.cell? ⟨q, 2, none⟩ = some (.int .u8 (Tk.mk n1 d1 0).c) := by rw [hwA]; exact cell_new 2 hq
            have HA := Lib.hid (⟨hA0, hA1, hA2⟩ : _ ∧ _ ∧ _)
            have HTA := Lib.hid (HTk.out.keptS (HK3.out.trans hkA) (fun _ _ h => h))
            have HKA := Lib.hid (HK.out.trans (HK3.out.trans hkA))
            have hsA : lo ≤ wA.heap.size := by have h1 := HKA.out.size; have h2 := HLo.out; omega
            clear hkA hA0 hA1 hA2
            go_wp2_with (at_builtin; rw [← hq, ← hwA]; clear hwA hq; refine wpList_tk rfl (.tmp 50) (.tmp 54) rfl HTA.out hsA rfl q 1 (Tk.mk n1 d1 0) rfl HA.out.1 HA.out.2.1 HA.out.2.2 (by omega) ?_)
            intro a9 c9 w9 h9 hk9
            have HT9 := Lib.hid h9
            have HK9 := Lib.hid ((HKA.out.dom.trans hk9).mono (fun k hk e => by have := HLo.out; have h7 : lo ≤ k := e; omega) : Kept NoB w w9)
            clear h9 hk9
            go_wp2
            go_roundw
            case rel => exact ⟨i + n1, a9, m + 1, c9, _, rfl, by go_num, (by have := HN.out; omega), by omega, HT9, HK9, HD9⟩
            case measure => simp [intOf] <;> omega
    · have hie : i = n := by omega
      have HF : Hid (out = TS) := Lib.hid (by
        have h := HD.out
        rw [rest_end lv L i (by have := HN.out; omega), List.append_nil] at h
        exact h)
      have hli : ¬ (i : Int) < (n : Int) := by omega
      clear hie
      go_wp2
      go_ret
      have hml := HTk.out.len
      rw [HF.out] at hml
      subst hml
      refine ⟨a2, c2, rfl, ?_, HK.out⟩
      have := HTk.out
      rw [HF.out] at this
      exact this
end Go.Proofs.YtifoldonmmobpaaDoor
