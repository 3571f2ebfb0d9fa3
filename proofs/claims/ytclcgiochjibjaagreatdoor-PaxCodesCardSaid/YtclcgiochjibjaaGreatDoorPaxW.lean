/-
  pax.record, pax.okRecord.
-/
import Derived.Test.YtclcgiochjibjaaGreatDoorCutA
import Derived.Test.YtclcgiochjibjaaGreatDoorAnyA
namespace Go.Proofs.YtclcgiochjibjaaGreatDoor
open Go.RowKit Go.Lib
set_option linter.unusedVariables false
set_option linter.unusedSimpArgs false

theorem strB_eq (a b : List UInt8) : ((strB a).toList == (strB b).toList) = decide (a = b) := by
  rw [strB_list, strB_list]
  by_cases h : a = b
  · subst h; simp
  · rw [decide_eq_false h]; simpa using h
set_option maxRecDepth 20000 in
set_option maxHeartbeats 4000000 in
theorem record_any (r : KVb) (w : World) (hs : r.1.length + r.2.length ≤ 800000) (htab : Pow10 w) :
    Calls Tryz.prog 14 #[.agg #[.string (strB r.1), .string (strB r.2)]] w fun e w' => e = .returned (.string (strB (recB r))) ∧ Kept NoB w w' := by
  obtain ⟨k, v⟩ := r
  simp only at hs
  have hL := restB_len (k, v)
  simp only at hL
  obtain ⟨L, hLL⟩ : ∃ L, L = (restB (k, v)).length := ⟨_, rfl⟩
  rw [← hLL] at hL
  have hd := recD_le L
  have hrb : recB (k, v) = decDigits (recD L + L) ++ restB (k, v) := by rw [recB, recL, ← hLL]
  have HIs := Lib.hid (recD_is (L := L) (by omega))
  have HLe := Lib.hid (fun d h1 h2 => recD_least (L := L) (d := d) h1 h2)
  have HDig := Lib.hid (fun (d : Nat) (W : World) (hd : d ≤ 6) (hp : Pow10 W) => digits_any ((d + L : Nat) : Int) (by omega) (by omega) W hp)
  have HT := Lib.hid htab
  -- the texts that are put together
  have e1 : strB ([32] ++ k) = (⟨#[32]⟩ : ByteArray) ++ strB k := (strB_app [32] k).symm
  have e2 : strB (([32] ++ k) ++ [61]) = strB ([32] ++ k) ++ (⟨#[61]⟩ : ByteArray) := (strB_app _ [61]).symm
  have e3 : strB ((([32] ++ k) ++ [61]) ++ v) = strB (([32] ++ k) ++ [61]) ++ strB v := (strB_app _ _).symm
  have e4 : strB (restB (k, v)) = strB ((([32] ++ k) ++ [61]) ++ v) ++ (⟨#[10]⟩ : ByteArray) := by
    rw [show (⟨#[10]⟩ : ByteArray) = strB [10] from rfl, strB_app]
    simp [restB]
  have z1 : (⟨#[32]⟩ : ByteArray).size = 1 := rfl
  have z2 : (⟨#[61]⟩ : ByteArray).size = 1 := rfl
  have z3 : (⟨#[10]⟩ : ByteArray).size = 1 := rfl
  have s0 : (strB k).size = k.length := strB_size _
  have sv : (strB v).size = v.length := strB_size _
  have s1 : (strB ([32] ++ k)).size = k.length + 1 := by rw [strB_size]; simp
  have s2 : (strB (([32] ++ k) ++ [61])).size = k.length + 2 := by rw [strB_size]; simp
  have s3 : (strB ((([32] ++ k) ++ [61]) ++ v)).size = k.length + 2 + v.length := by rw [strB_size]; simp; omega
  have s4 : (strB (restB (k, v))).size = L := by rw [strB_size, hLL]
  have a1 := fun W => run_string_add_sum (P := Tryz.prog) W (⟨#[32]⟩ : ByteArray) (strB k) (by omega)
  have a2 := fun W => run_string_add_sum (P := Tryz.prog) W (strB ([32] ++ k)) (⟨#[61]⟩ : ByteArray) (by omega)
  have a3 := fun W => run_string_add_sum (P := Tryz.prog) W (strB (([32] ++ k) ++ [61])) (strB v) (by omega)
  have a4 := fun W => run_string_add_sum (P := Tryz.prog) W (strB ((([32] ++ k) ++ [61]) ++ v)) (⟨#[10]⟩ : ByteArray) (by omega)
  rw [← e1] at a1; rw [← e2] at a2; rw [← e3] at a3; rw [← e4] at a4
  have hfin : ∀ d : Nat, strB (decDigits (d + L)) ++ strB (restB (k, v)) = strB (decDigits (d + L) ++ restB (k, v)) := fun d => strB_app _ _
  have HFin := Lib.hid hfin
  have HRb := Lib.hid hrb
  generalize strB ([32] ++ k) = S1 at *
  generalize strB (([32] ++ k) ++ [61]) = S2 at *
  generalize strB ((([32] ++ k) ++ [61]) ++ v) = S3 at *
  obtain ⟨R, hR⟩ : ∃ R, R = strB (restB (k, v)) := ⟨_, rfl⟩
  rw [← hR] at s4 a4
  have HR := Lib.hid hR
  generalize strB k = K at *
  generalize strB v = V at *
  have hLb : L ≤ 800003 := by omega
  clear e1 e2 e3 e4 hR hfin hrb hLL htab hL s0 sv s1 s2 s3 z1 z2 z3 hs
  obtain ⟨M, hM⟩ : ∃ M, M = recD L := ⟨_, rfl⟩
  rw [← hM] at hd HIs HLe HRb
  clear hM
  go_enter Tryz.func14, Tryz.ntmps14
  go_wp2
  go_loopw [4, 5] (fun v4 v5 wr => ∃ d : Nat, v4 = .int .i64 (d : Int) ∧ 1 ≤ d ∧ d ≤ M ∧ Hid (Kept NoB w wr)) (fun v4 _ _ => 7 - (RowKit.intOf v4).toNat)
  case atStart => exact ⟨1, by go_num, by omega, by omega, ((Kept.refl NoB w).alloc _)⟩
  case round =>
    obtain ⟨d, rfl, hd1, hd2, HK⟩ := hrel
    have HD := Lib.hid (HDig.out d wr (by omega) (HT.out.keptNo HK.out))
    have hnn := itoa_nonneg (d + L)
    rw [hnn] at HD
    obtain ⟨q, hq⟩ : ∃ q, q = d + L := ⟨_, rfl⟩
    have hcast : ((d : Int) + (L : Int)) = ((d + L : Nat) : Int) := by omega
    rw [← hq] at HD hcast
    have hql : (decDigits (d + L)).length ≤ 6 := decDigits_len 6 _ (by decide) (by omega)
    have hfin := HFin.out d
    rw [← HR.out] at hfin
    have had := fun W => run_string_add_sum (P := Tryz.prog) W (strB (decDigits (d + L))) R (by rw [strB_size]; omega)
    rw [hfin] at had
    rw [← hq] at had
    obtain ⟨T, hT⟩ : ∃ T, T = strB (decDigits q) := ⟨_, rfl⟩
    have HD2 : Hid (Calls Tryz.prog 31 #[.int .i64 (q : Int)] wr fun e w' => e = .returned (.string T) ∧ Kept NoB wr w') := by rw [hT]; exact HD
    rw [← hT] at had
    have hTs : T.size = (decDigits q).length := by rw [hT, strB_size]
    have hw : IntKind.i64.wrap ((d : Int) + (L : Int)) = (q : Int) := by rw [IntWalk.i64_in _ (by omega)]; omega
    by_cases he : d = M
    · have hl : T.size = d := by rw [hTs, hq, he]; exact HIs.out
      have HX : Hid (strB (decDigits q ++ restB (k, v)) = strB (recB (k, v))) := Lib.hid (by rw [HRb.out, hq, he])
      rw [HX.out] at had
      clear hTs hT hq hfin hnn hcast HD hql hd2 he
      obtain ⟨ts, hts⟩ : ∃ ts, ts = T.size := ⟨_, rfl⟩
      go_wp2_with fail
      refine HD2.out.mono ?_
      rintro e w2 ⟨rfl, hk2⟩
      have HK2 := Lib.hid (HK.out.trans hk2)
      clear hk2
      go_wp2
      go_ret
      exact ⟨rfl, HK2.out⟩
    · have hl : T.size ≠ d := by rw [hTs, hq]; exact HLe.out d hd1 (by omega)
      have hlb : ((T.size : Int) == (d : Int)) = false := by simp; omega
      clear hTs hT hfin hnn hcast HD hql had hq
      go_wp2_with fail
      refine HD2.out.mono ?_
      rintro e w2 ⟨rfl, hk2⟩
      have HK2 := Lib.hid (HK.out.trans hk2)
      clear hk2
      go_wp2
      go_roundw
      case rel => exact ⟨d + 1, by go_num, by omega, by omega, HK2⟩
      case measure => simp [RowKit.intOf]; omega

theorem any_bad (l : List UInt8) : decide (0 ≤ Lib.indexAny l [61, 10, 0]) = l.any badK := by
  induction l with
  | nil => rfl
  | cons b l ih =>
    have hge := Lib.indexAny_ge [61, 10, 0] l
    have hb : ([61, 10, 0] : List UInt8).contains b = badK b := by
      simp only [List.contains_cons, List.contains_nil, badK, Bool.or_false]
      rw [Bool.or_assoc]
    rw [Lib.indexAny, hb, List.any_cons]
    cases hbb : badK b with
    | true => rfl
    | false =>
      rw [Bool.false_or, ← ih, if_neg Bool.false_ne_true]
      by_cases h : Lib.indexAny l [61, 10, 0] = -1
      · rw [h]; rfl
      · have : (Lib.indexAny l [61, 10, 0] == -1) = false := by simpa using h
        rw [this]
        simp only [Bool.false_eq_true, if_false]
        rw [decide_eq_decide]
        omega
theorem any_nul (c : UInt8) (l : List UInt8) : decide (0 ≤ Lib.indexByte l c) = l.any (· == c) := by
  induction l with
  | nil => rfl
  | cons b l ih =>
    have hge := Lib.indexByte_ge l c
    rw [Lib.indexByte, List.any_cons]
    cases hbb : (b == c) with
    | true => rfl
    | false =>
      rw [Bool.false_or, ← ih, if_neg Bool.false_ne_true]
      by_cases h : Lib.indexByte l c = -1
      · rw [h]; rfl
      · have : (Lib.indexByte l c == -1) = false := by simpa using h
        rw [this]
        simp only [Bool.false_eq_true, if_false]
        rw [decide_eq_decide]
        omega

set_option maxRecDepth 20000 in
set_option maxHeartbeats 4000000 in
theorem okRecord_any (r : KVb) (w : World) (hs : r.1.length ≤ 1000000) :
    Calls Tryz.prog 13 #[.agg #[.string (strB r.1), .string (strB r.2)]] w fun e w' => e = .returned (.bool (okR r)) ∧ Kept NoB w w' := by
  obtain ⟨k, v⟩ := r
  simp only at hs
  have hC := fun W => containsAny_any (strB k) W (by rw [strB_size]; omega)
  rw [strB_data, any_bad] at hC
  have hN := fun W => Tryz.strings_Contains_one (strB v) 0 W
  rw [strB_data, any_nul] at hN
  have HC := Lib.hid hC; have HN := Lib.hid hN
  have HO : Hid (okR (k, v) = (!k.isEmpty && !k.any badK && !v.any (· == 0))) := Lib.hid rfl
  have hE : (strB k).toList = k := strB_list k
  clear hC hN
  generalize k.any badK = b1 at *
  generalize v.any (· == 0) = b2 at *
  obtain ⟨K, hK⟩ : ∃ K, K = strB k := ⟨_, rfl⟩
  rw [← hK] at HC hE ⊢
  generalize strB v = V at *
  clear hK hs
  by_cases h0 : k = []
  · have hEE : K.toList = [] := by rw [hE, h0]
    have HF : Hid (okR (k, v) = false) := Lib.hid (by rw [HO.out, h0]; rfl)
    clear hE h0
    go_enter Tryz.func13, Tryz.ntmps13
    go_wp2
    go_ret
    exact ⟨by rw [HF.out]; rfl, (Kept.refl NoB w).alloc _⟩
  · have hEE : ¬ K.toList = [] := by rw [hE]; exact h0
    have hE2 : K.toList.isEmpty = false := by simpa using hEE
    have HF : Hid (okR (k, v) = (!b1 && !b2)) := Lib.hid (by
      have : k.isEmpty = false := by simpa using h0
      rw [HO.out, this]; rfl)
    clear hE h0
    cases b1 with
    | true =>
      go_enter Tryz.func13, Tryz.ntmps13
      go_wp2_with fail
      refine (HC.out _).mono ?_
      rintro e w1 ⟨rfl, hb⟩
      have HB := Lib.hid (((Kept.refl NoB w).alloc _).ofBelow hb)
      clear hb
      go_wp2
      go_ret
      exact ⟨by rw [HF.out]; rfl, HB.out⟩
    | false =>
      go_enter Tryz.func13, Tryz.ntmps13
      go_wp2_with fail
      refine (HC.out _).mono ?_
      rintro e w1 ⟨rfl, hb⟩
      have HB := Lib.hid (((Kept.refl NoB w).alloc _).ofBelow hb)
      have hc1 : w1.cell? ⟨w.heap.size, 1, none⟩ = some (.string V) := by
        have := HB.out
        exact (World.cell?_of_block (hb.block w.heap.size (by simp))).trans (cell_new 1 rfl)
      clear hb
      go_wp2_with fail
      refine (HN.out _).mono ?_
      rintro e w2 ⟨rfl, rfl⟩
      go_wp2
      go_ret
      exact ⟨by rw [HF.out]; rfl, HB.out⟩
end Go.Proofs.YtclcgiochjibjaaGreatDoor
