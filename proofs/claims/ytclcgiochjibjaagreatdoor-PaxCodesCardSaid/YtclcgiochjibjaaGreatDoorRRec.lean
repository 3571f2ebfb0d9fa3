/-
  The document's own KVOk, record.
-/
import Derived.Test.YtclcgiochjibjaaGreatDoorSmallX
namespace Go.Proofs.YtclcgiochjibjaaGreatDoor
open Go.RowKit
set_option linter.unusedVariables false
set_option linter.unusedSimpArgs false

theorem itoa_strB (u : Nat) : (⟨(Lib.itoa ((u : Nat) : Int)).toArray⟩ : ByteArray) = strB (Lib.decDigits u) := by rw [Lib.itoa_nonneg]; rfl
theorem strB_get (l : List UInt8) (i : Nat) (h : i < (strB l).size) : (strB l)[i] = l.getD i 0 := by
  have h2 : i < l.length := by rw [strB_size] at h; exact h
  have : l.getD i 0 = l[i] := by simp [List.getD, h2]
  rw [this]
  rfl
theorem any_take (p : UInt8 → Bool) (d : List UInt8) (i : Nat) (hi : i < d.length) (h : (d.take i).any p = false) (hd : p (d.getD i 0) = false) : (d.take (i + 1)).any p = false := by
  rw [List.take_succ_eq_append_getElem hi, List.any_append, h]
  simp [List.getD, hi] at hd
  simp [hd]
theorem any_here (p : UInt8 → Bool) (d : List UInt8) (i : Nat) (hi : i < d.length) (hd : p (d.getD i 0) = true) : d.any p = true := by
  rw [List.any_eq_true]
  refine ⟨d[i], List.getElem_mem hi, ?_⟩
  simpa [List.getD, hi] using hd

set_option maxRecDepth 20000 in
set_option maxHeartbeats 4000000 in
theorem kvok_any (r : KVb) (w : World) (hs : r.1.length + r.2.length ≤ 800000) :
    Calls Tryz.prog 15 #[.agg #[.string (strB r.1), .string (strB r.2)]] w fun e w' => e = .returned (.bool (okR r)) ∧ Kept NoB w w' := by
  obtain ⟨A, hA⟩ : ∃ A, A = strB r.1 := ⟨_, rfl⟩
  obtain ⟨B, hB⟩ : ∃ B, B = strB r.2 := ⟨_, rfl⟩
  rw [← hA, ← hB]
  obtain ⟨w1, hw1⟩ : ∃ w1, w1 = w.alloc (.cells #[.string A, .string B] 28) := ⟨_, rfl⟩
  have hk1 : Kept NoB w w1 := by rw [hw1]; exact (Kept.refl _ _).alloc _
  have hc0 : w1.cell? ⟨w.heap.size, 0, none⟩ = some (.string A) := by rw [hw1]; exact cell_new 0 rfl
  have hc1 : w1.cell? ⟨w.heap.size, 1, none⟩ = some (.string B) := by rw [hw1]; exact cell_new 1 rfl
  obtain ⟨R, hR⟩ : ∃ R, R = okR r := ⟨_, rfl⟩
  have hok : R = (!r.1.isEmpty && !r.1.any badK && !r.2.any (· == 0)) := hR
  rw [← hR]
  have hAz : A.size = r.1.length := by rw [hA, strB_size]
  have hBz : B.size = r.2.length := by rw [hB, strB_size]
  have hAl : A.toList = r.1 := by rw [hA, strB_list]
  have hAt : ∀ (i : Nat) (h : i < A.size), (A[i]'h) = r.1.getD i 0 := by subst hA; exact fun i h => strB_get r.1 i h
  have hBt : ∀ (i : Nat) (h : i < B.size), (B[i]'h) = r.2.getD i 0 := by subst hB; exact fun i h => strB_get r.2 i h
  have HAt := Lib.hid hAt; have HBt := Lib.hid hBt; have HOk := Lib.hid hok; have HK1 := Lib.hid hk1; have HAl := Lib.hid hAl
  clear hR hok hA hB hAt hBt hk1 hAl
  obtain ⟨la, hla⟩ : ∃ la, la = r.1.length := ⟨_, rfl⟩
  obtain ⟨lb, hlb⟩ : ∃ lb, lb = r.2.length := ⟨_, rfl⟩
  rw [← hla] at hAz hs
  rw [← hlb] at hBz hs
  have HLa := Lib.hid hla; have HLb := Lib.hid hlb
  clear hla hlb
  go_enter Tryz.func15, Tryz.ntmps15
  go_wp2
  rw [← hw1]
  clear hw1
  go_loopw [3] (fun v3 wr => ∃ i : Nat, v3 = .int .i64 (i : Int) ∧ i ≤ la ∧ Hid ((r.1.take i).any badK = false) ∧ w1 = wr) (fun v3 _ => la - (intOf v3).toNat)
  case atStart => exact ⟨0, rfl, by omega, Lib.hid (by simp), rfl⟩
  case round =>
    obtain ⟨i, rfl, hi, HI, rfl⟩ := hrel
    by_cases hil : i < la
    · have hlt : i < A.size := by omega
      have hat := HAt.out i hlt
      have hi2 : i < r.1.length := by have := HLa.out; omega
      obtain ⟨x, hx⟩ : ∃ x, x = r.1.getD i 0 := ⟨_, rfl⟩
      have hst := any_take badK r.1 i hi2 HI.out
      have hhr := any_here badK r.1 i hi2
      rw [← hx] at hat hst hhr
      have hbx : badK x = (decide (x = 61) || decide (x = 10) || decide (x = 0)) := by unfold badK; rfl
      have hv : ∀ c : UInt8, ((A[i]'hlt).toNat : Int) = (c.toNat : Int) ↔ x = c := fun c => by
        rw [hat]
        exact ⟨fun e => UInt8.toNat_inj.1 (by omega), fun e => by rw [e]⟩
      have v61 := hv 61
      have v10 := hv 10
      have v0 := hv 0
      have e61 : ((61 : UInt8).toNat : Int) = 61 := rfl
      have e10 : ((10 : UInt8).toNat : Int) = 10 := rfl
      have e0 : ((0 : UInt8).toNat : Int) = 0 := rfl
      rw [e61] at v61
      rw [e10] at v10
      rw [e0] at v0
      have HSt := Lib.hid hst; have HHr := Lib.hid hhr; have HBx := Lib.hid hbx
      clear hx hst hhr hbx hv e61 e10 e0 hat
      by_cases h61 : x = 61
      · have q1 := v61.2 h61
        have q1b : (((A[i]'hlt).toNat : Int) == 61) = true := by simpa using q1
        have HF : Hid (R = false) := Lib.hid (by rw [HOk.out, HHr.out (by rw [HBx.out, h61]; rfl)]; simp)
        clear v61 v10 v0 h61
        go_wp2
        go_ret
        exact ⟨by rw [HF.out]; rfl, HK1.out⟩
      · by_cases h10 : x = 10
        · have q1 : ¬ ((A[i]'hlt).toNat : Int) = 61 := fun e => h61 (v61.1 e)
          have q1b : (((A[i]'hlt).toNat : Int) == 61) = false := by simpa using q1
          have q2 := v10.2 h10
          have q2b : (((A[i]'hlt).toNat : Int) == 10) = true := by simpa using q2
          have HF : Hid (R = false) := Lib.hid (by rw [HOk.out, HHr.out (by rw [HBx.out, h10]; rfl)]; simp)
          clear v61 v10 v0 h61 h10 q1 q2
          go_wp2
          go_ret
          exact ⟨by rw [HF.out]; rfl, HK1.out⟩
        · by_cases h0 : x = 0
          · have q1 : ¬ ((A[i]'hlt).toNat : Int) = 61 := fun e => h61 (v61.1 e)
            have q1b : (((A[i]'hlt).toNat : Int) == 61) = false := by simpa using q1
            have q2 : ¬ ((A[i]'hlt).toNat : Int) = 10 := fun e => h10 (v10.1 e)
            have q2b : (((A[i]'hlt).toNat : Int) == 10) = false := by simpa using q2
            have q3 := v0.2 h0
            have q3b : (((A[i]'hlt).toNat : Int) == 0) = true := by simpa using q3
            have HF : Hid (R = false) := Lib.hid (by rw [HOk.out, HHr.out (by rw [HBx.out, h0]; rfl)]; simp)
            clear v61 v10 v0 h61 h10 h0 q1 q2 q3
            go_wp2
            go_ret
            exact ⟨by rw [HF.out]; rfl, HK1.out⟩
          · have q1 : ¬ ((A[i]'hlt).toNat : Int) = 61 := fun e => h61 (v61.1 e)
            have q1b : (((A[i]'hlt).toNat : Int) == 61) = false := by simpa using q1
            have q2 : ¬ ((A[i]'hlt).toNat : Int) = 10 := fun e => h10 (v10.1 e)
            have q2b : (((A[i]'hlt).toNat : Int) == 10) = false := by simpa using q2
            have q3 : ¬ ((A[i]'hlt).toNat : Int) = 0 := fun e => h0 (v0.1 e)
            have q3b : (((A[i]'hlt).toNat : Int) == 0) = false := by simpa using q3
            have HI2 : Hid ((r.1.take (i + 1)).any badK = false) := Lib.hid (HSt.out (by rw [HBx.out, decide_eq_false h61, decide_eq_false h10, decide_eq_false h0]; rfl))
            clear v61 v10 v0 h61 h10 h0 q1 q2 q3
            go_wp2
            go_roundw
            case rel => exact ⟨i + 1, by go_num, by omega, HI2, trivial⟩
            case measure => simp [intOf]; omega
    · have hie : i = la := by omega
      have hA0 : Hid (r.1.any badK = false) := Lib.hid (by
        have := HI.out
        rwa [hie, HLa.out, List.take_length] at this)
      clear hie
      have hil2 : ¬ (i : Int) < (la : Int) := by omega
      go_wp2
      go_loopw [4] (fun v4 wr => ∃ j : Nat, v4 = .int .i64 (j : Int) ∧ j ≤ lb ∧ Hid ((r.2.take j).any (· == 0) = false) ∧ w1 = wr) (fun v4 _ => lb - (intOf v4).toNat)
      case atStart => exact ⟨0, rfl, by omega, Lib.hid (by simp), rfl⟩
      case round =>
        obtain ⟨j, rfl, hj, HJ, rfl⟩ := hrel
        by_cases hjl : j < lb
        · have hlt : j < B.size := by omega
          have hat := HBt.out j hlt
          have hj2 : j < r.2.length := by have := HLb.out; omega
          have hst := any_take (· == 0) r.2 j hj2 HJ.out
          have hhr := any_here (· == 0) r.2 j hj2
          have HSt := Lib.hid hst; have HHr := Lib.hid hhr
          clear hst hhr
          by_cases h0 : r.2.getD j 0 = 0
          · have q3 : ((B[j]'hlt).toNat : Int) = 0 := by rw [hat, h0]; rfl
            have q3b : (((B[j]'hlt).toNat : Int) == 0) = true := by simpa using q3
            have HF : Hid (R = false) := Lib.hid (by rw [HOk.out, HHr.out (by simp only [h0]; rfl)]; simp)
            clear hat h0 q3
            go_wp2
            go_ret
            exact ⟨by rw [HF.out]; rfl, HK1.out⟩
          · have q3 : ¬ ((B[j]'hlt).toNat : Int) = 0 := fun e => h0 (by rw [← hat]; exact UInt8.toNat_inj.1 (by rw [show (0 : UInt8).toNat = 0 from rfl]; omega))
            have q3b : (((B[j]'hlt).toNat : Int) == 0) = false := by simpa using q3
            have HI2 : Hid ((r.2.take (j + 1)).any (· == 0) = false) := Lib.hid (HSt.out (by simpa using h0))
            clear hat h0 q3
            go_wp2
            go_roundw
            case rel => exact ⟨j + 1, by go_num, by omega, HI2, trivial⟩
            case measure => simp [intOf]; omega
        · have hje : j = lb := by omega
          have hB0 : Hid (r.2.any (· == 0) = false) := Lib.hid (by
            have := HJ.out
            rwa [hje, HLb.out, List.take_length] at this)
          clear hje
          have hjl2 : ¬ (j : Int) < (lb : Int) := by omega
          by_cases he : r.1 = []
          · have h1 : A.toList = [] := by rw [HAl.out, he]
            have h2 : A.toList.isEmpty = true := by rw [h1]; rfl
            have HF : Hid (R = false) := Lib.hid (by rw [HOk.out, he]; rfl)
            clear he
            go_wp2
            go_ret
            exact ⟨by rw [HF.out]; rfl, HK1.out⟩
          · have h1 : ¬ A.toList = [] := by rw [HAl.out]; exact he
            have h2 : A.toList.isEmpty = false := by simpa using h1
            have HF : Hid (R = true) := Lib.hid (by
              have : r.1.isEmpty = false := by simpa using he
              rw [HOk.out, hA0.out, hB0.out, this]; rfl)
            clear he
            go_wp2
            go_ret
            exact ⟨by rw [HF.out]; rfl, HK1.out⟩

set_option maxRecDepth 20000 in
set_option maxHeartbeats 4000000 in
theorem rrecord_any (r : KVb) (w : World) (hs : r.1.length + r.2.length ≤ 800000) :
    Calls Tryz.prog 16 #[.agg #[.string (strB r.1), .string (strB r.2)]] w fun e w' => e = .returned (.string (strB (recB r))) ∧ Kept NoB w w' := by
  obtain ⟨k, v⟩ := r
  simp only at hs
  have hL := restB_len (k, v)
  simp only at hL
  obtain ⟨L, hLL⟩ : ∃ L, L = (restB (k, v)).length := ⟨_, rfl⟩
  rw [← hLL] at hL
  have hd := recD_le L
  have hrb : recB (k, v) = Lib.decDigits (recD L + L) ++ restB (k, v) := by rw [recB, recL, ← hLL]
  have HIs := Lib.hid (recD_is (L := L) (by omega))
  have HLe := Lib.hid (fun d h1 h2 => recD_least (L := L) (d := d) h1 h2)
  have HDig := Lib.hid (fun (d : Nat) (W : World) (hd : d ≤ 6) => rDigits_any ((d + L : Nat) : Int) W (by omega) (by omega))
  -- the texts that are put together
  have e1 : strB ([32] ++ k) = (⟨#[32]⟩ : ByteArray) ++ strB k := (strB_app [32] k).symm
  have e2 : strB (([32] ++ k) ++ [61]) = strB ([32] ++ k) ++ (⟨#[61]⟩ : ByteArray) := (strB_app _ [61]).symm
  have e3 : strB ((([32] ++ k) ++ [61]) ++ v) = strB (([32] ++ k) ++ [61]) ++ strB v := (strB_app _ _).symm
  have e4 : strB (restB (k, v)) = strB ((([32] ++ k) ++ [61]) ++ v) ++ (⟨#[10]⟩ : ByteArray) := by
    rw [show (⟨#[10]⟩ : ByteArray) = strB [10] from rfl, strB_app]
    simp [restB]
  have z1 : (⟨#[32]⟩ : ByteArray).size = 1 := rfl
  have z2 : (⟨#[61]⟩ : ByteArray).size = 1 := rfl
  have z3 : (⟨#[10]⟩ : ByteArray).size = 1 := rfl
  have s0 : (strB k).size = k.length := strB_size _
  have sv : (strB v).size = v.length := strB_size _
  have s1 : (strB ([32] ++ k)).size = k.length + 1 := by rw [strB_size]; simp
  have s2 : (strB (([32] ++ k) ++ [61])).size = k.length + 2 := by rw [strB_size]; simp
  have s3 : (strB ((([32] ++ k) ++ [61]) ++ v)).size = k.length + 2 + v.length := by rw [strB_size]; simp; omega
  have s4 : (strB (restB (k, v))).size = L := by rw [strB_size, hLL]
  have a1 := fun W => run_string_add_sum (P := Tryz.prog) W (⟨#[32]⟩ : ByteArray) (strB k) (by omega)
  have a2 := fun W => run_string_add_sum (P := Tryz.prog) W (strB ([32] ++ k)) (⟨#[61]⟩ : ByteArray) (by omega)
  have a3 := fun W => run_string_add_sum (P := Tryz.prog) W (strB (([32] ++ k) ++ [61])) (strB v) (by omega)
  have a4 := fun W => run_string_add_sum (P := Tryz.prog) W (strB ((([32] ++ k) ++ [61]) ++ v)) (⟨#[10]⟩ : ByteArray) (by omega)
  rw [← e1] at a1; rw [← e2] at a2; rw [← e3] at a3; rw [← e4] at a4
  have hfin : ∀ d : Nat, strB (Lib.decDigits (d + L)) ++ strB (restB (k, v)) = strB (Lib.decDigits (d + L) ++ restB (k, v)) := fun d => strB_app _ _
  have HFin := Lib.hid hfin
  have HRb := Lib.hid hrb
  generalize strB ([32] ++ k) = S1 at *
  generalize strB (([32] ++ k) ++ [61]) = S2 at *
  generalize strB ((([32] ++ k) ++ [61]) ++ v) = S3 at *
  obtain ⟨R, hR⟩ : ∃ R, R = strB (restB (k, v)) := ⟨_, rfl⟩
  rw [← hR] at s4 a4
  have HR := Lib.hid hR
  generalize strB k = K at *
  generalize strB v = V at *
  have hLb : L ≤ 800003 := by omega
  clear e1 e2 e3 e4 hR hfin hrb hLL hL s0 sv s1 s2 s3 z1 z2 z3 hs
  obtain ⟨M, hM⟩ : ∃ M, M = recD L := ⟨_, rfl⟩
  rw [← hM] at hd HIs HLe HRb
  clear hM
  obtain ⟨w1, hw1⟩ : ∃ w1, w1 = w.alloc (.cells #[.string K, .string V] 28) := ⟨_, rfl⟩
  have hk1 : Kept NoB w w1 := by rw [hw1]; exact (Kept.refl _ _).alloc _
  have hc0 : w1.cell? ⟨w.heap.size, 0, none⟩ = some (.string K) := by rw [hw1]; exact cell_new 0 rfl
  have hc1 : w1.cell? ⟨w.heap.size, 1, none⟩ = some (.string V) := by rw [hw1]; exact cell_new 1 rfl
  have HK1 := Lib.hid hk1
  clear hk1
  go_enter Tryz.func16, Tryz.ntmps16
  go_upto_region 1 with fail
  rw [← hw1]
  clear hw1
  go_wp2
  go_loopw [4] (fun v4 wr => ∃ d q : Nat, v4 = .int .i64 (q : Int) ∧ q ≤ 900000 ∧ q ≤ L + 6 ∧ 1 ≤ d ∧ d ≤ M ∧ Hid (q = d + L) ∧ w1 = wr) (fun v4 _ => L + 7 - (RowKit.intOf v4).toNat)
  case atStart => exact ⟨1, L + 1, by go_num, by omega, by omega, by omega, by omega, Lib.hid (by omega), rfl⟩
  case round =>
    obtain ⟨d, q, rfl, hq9, hqL6, hd1, hd2, HQ, rfl⟩ := hrel
    have hq := HQ.out
    have HD := Lib.hid (HDig.out d w1 (by omega))
    have hnn := itoa_strB (d + L)
    rw [hnn] at HD
    rw [← hq] at HD
    have hql : (Lib.decDigits (d + L)).length ≤ 6 := decDigits_len 6 _ (by decide) (by omega)
    have hfin := HFin.out d
    rw [← HR.out] at hfin
    have had := fun W => run_string_add_sum (P := Tryz.prog) W (strB (Lib.decDigits (d + L))) R (by rw [strB_size]; omega)
    rw [hfin] at had
    rw [← hq] at had
    obtain ⟨T, hT⟩ : ∃ T, T = strB (Lib.decDigits q) := ⟨_, rfl⟩
    have HD2 : Hid (Calls Tryz.prog 32 #[.int .i64 (q : Int)] w1 fun e w' => e = .returned (.string T) ∧ w1 = w') := by rw [hT]; exact HD
    rw [← hT] at had
    have hTs : T.size = (Lib.decDigits q).length := by rw [hT, strB_size]
    by_cases he : d = M
    · have hl : T.size = d := by rw [hTs, hq, he]; exact HIs.out
      have HX : Hid (strB (Lib.decDigits q ++ restB (k, v)) = strB (recB (k, v))) := Lib.hid (by rw [HRb.out, hq, he])
      rw [HX.out] at had
      have hsum : (T.size : Int) + (L : Int) = (q : Int) := by omega
      have hself : ((q : Int) == (q : Int)) = true := by simp
      have hT6 : T.size ≤ 6 := by rw [hTs, hq]; exact hql
      clear hTs hT hq hfin hnn HD hql hd2 he hl
      go_wp2_with fail
      refine HD2.out.mono ?_
      rintro e w2 ⟨rfl, rfl⟩
      go_wp2_with fail
      refine HD2.out.mono ?_
      rintro e w2 ⟨rfl, rfl⟩
      go_wp2
      go_ret
      exact ⟨rfl, HK1.out⟩
    · have hl : T.size ≠ d := by rw [hTs, hq]; exact HLe.out d hd1 (by omega)
      have hlb : ((T.size : Int) + (L : Int) == (q : Int)) = false := by simp; omega
      have hT6 : T.size ≤ 6 := by rw [hTs, hq]; exact hql
      have HQ2 : Hid (q + 1 = d + 1 + L) := Lib.hid (by omega)
      have hq10 : q + 1 ≤ 900000 ∧ q + 1 ≤ L + 6 := by omega
      clear hTs hT hfin hnn HD hql had hq
      go_wp2_with fail
      refine HD2.out.mono ?_
      rintro e w2 ⟨rfl, rfl⟩
      go_wp2
      go_roundw
      case rel => exact ⟨d + 1, q + 1, by go_num, hq10.1, hq10.2, by omega, by omega, HQ2, trivial⟩
      case measure => simp [RowKit.intOf]; omega
end Go.Proofs.YtclcgiochjibjaaGreatDoor
