/-
  PaxNanos: digits behind the ninth say nothing; a minus turns the time; noughts at the end say nothing.
-/
import Derived.Test.YtclcgiochjibjaaDoorSmallX
import Derived.Test.YtclcgiochjibjaaDoorNanoP
import Derived.Test.YtclcgiochjibjaaDoorMask
namespace Go.Proofs.YtclcgiochjibjaaDoor
open Go.RowKit
set_option linter.unusedVariables false
set_option linter.unusedSimpArgs false

theorem mask30 (n : Int) : bits .and .i64 n 1073741823 = n % 1073741824 := i64_mask n 30 (by decide)

set_option maxRecDepth 20000 in
set_option maxHeartbeats 8000000 in
theorem paxNanos_law (v0 v1 v2 : Value) (w : World) (r0 : Arg w 3 v0) (r1 : Arg w 3 v1) (r2 : Arg w 3 v2) (htab : Pow10 w) (herr : ErrVars w) :
    Calls Tryd.prog 4 #[v0, v1, v2] w fun e w' => e = .returned (.bool true) ∧ Below w.heap.size w w' := by
  obtain ⟨x0, rfl, hx0⟩ := r0.int Tryd.underlying3
  obtain ⟨x1, rfl, hx1⟩ := r1.int Tryd.underlying3
  obtain ⟨x2, rfl, hx2⟩ := r2.int Tryd.underlying3
  have HT := Lib.hid htab; have HE := Lib.hid herr
  have m0 := mask30 x0
  have m1 := mask30 x1
  have m2 := mask65535 x2
  obtain ⟨s, hs⟩ : ∃ s : Nat, (s : Int) = x0 % 1073741824 % 1000000000 := ⟨(x0 % 1073741824 % 1000000000).toNat, by omega⟩
  obtain ⟨n, hn⟩ : ∃ n : Nat, (n : Int) = x1 % 1073741824 % 1000000000 := ⟨(x1 % 1073741824 % 1000000000).toNat, by omega⟩
  obtain ⟨q, hq⟩ : ∃ q : Nat, (q : Int) = x2 % 65536 := ⟨(x2 % 65536).toNat, by omega⟩
  have hs9 : s < 1000000000 := by omega
  have hn9 : n < 1000000000 := by omega
  have hq9 : q < 65536 := by omega
  have hcl : (Lib.decDigits q).length ≤ 5 := decDigits_len 5 q (by decide) (by omega)
  have hall := nanos_all s n (Lib.decDigits q) hs9 hn9 (dec_all q) (by omega)
  obtain ⟨a1, _, a3, _⟩ := nine_dig s hs9
  obtain ⟨b1, _, b3, _⟩ := nine_dig n hn9
  have hla : (Lib.decDigits (1000000000 + s)).length = 10 := dec_len 9 _ (by omega) (by omega)
  have hlb : (Lib.decDigits (1000000000 + n)).length = 10 := dec_len 9 _ (by omega) (by omega)
  have HD1 := Lib.hid (fun W => (lDigits_any (1000000000 + s) W (by omega)).mono (fun e w' (h : _ ∧ _) => (⟨h.1, h.2.symm⟩ : _ ∧ w' = W)))
  have HD2 := Lib.hid (fun W => (lDigits_any (1000000000 + n) W (by omega)).mono (fun e w' (h : _ ∧ _) => (⟨h.1, h.2.symm⟩ : _ ∧ w' = W)))
  have HD3 := Lib.hid (fun W => (lDigits_any q W (by omega)).mono (fun e w' (h : _ ∧ _) => (⟨h.1, h.2.symm⟩ : _ ∧ w' = W)))
  have hea : (strB (Lib.decDigits (1000000000 + s))).extract 1 10 = strB ((Lib.decDigits (1000000000 + s)).drop 1) := by
    rw [strB_extract, List.take_of_length_le (by omega)]
  have heb : (strB (Lib.decDigits (1000000000 + n))).extract 1 10 = strB ((Lib.decDigits (1000000000 + n)).drop 1) := by
    rw [strB_extract, List.take_of_length_le (by omega)]
  have hza : (strB (Lib.decDigits (1000000000 + s))).size = 10 := by rw [strB_size, hla]
  have hzb : (strB (Lib.decDigits (1000000000 + n))).size = 10 := by rw [strB_size, hlb]
  obtain ⟨N, hN⟩ : ∃ N : Nat, N = s * 1000000000 + n := ⟨_, rfl⟩
  rw [← hN] at hall
  have hNi : (s : Int) * 1000000000 + (n : Int) = (N : Int) := by omega
  have hNb : N < 1000000000000000000 := by omega
  obtain ⟨u1, hu1⟩ : ∃ u1, u1 = 1000000000 + s := ⟨_, rfl⟩
  obtain ⟨u2, hu2⟩ : ∃ u2, u2 = 1000000000 + n := ⟨_, rfl⟩
  rw [← hu1] at hall a1 a3 hla hea hza HD1
  rw [← hu2] at hall b1 b3 hlb heb hzb HD2
  have f1 : (s : Int) + 1000000000 = (u1 : Int) := by omega
  have f2 : (n : Int) + 1000000000 = (u2 : Int) := by omega
  clear hu1 hu2
  generalize Lib.decDigits u1 = DA at *
  generalize Lib.decDigits u2 = DB at *
  generalize Lib.decDigits q = c at *
  generalize DA.drop 1 = a at *
  generalize DB.drop 1 = b at *
  obtain ⟨t1, t2, t3, t4, t5⟩ := hall
  have hT : ∀ (l : List UInt8) (r : Int × Bool), l.length ≤ 100 → timeS l = r → ∀ W, Calls Tryd.prog 13 #[.string (strB l)] W fun e w' => e = .returned (.tuple #[.int .i64 r.1, .bool r.2]) ∧ Kept NoB W w' := fun l r hl h W => by
    have := time_any l W (by omega)
    rwa [h] at this
  have hl1 : (a ++ 46 :: b).length = 19 := by simp; omega
  have HT1 := Lib.hid (hT _ _ (by omega) t1)
  have HT2 := Lib.hid (hT _ _ (by simp; omega) t2)
  have HT3 := Lib.hid (hT _ _ (by simp; omega) t3)
  have HT4 := Lib.hid (hT _ _ (by simp; omega) t4)
  have HT5 := Lib.hid (hT _ _ (by simp; omega) t5)
  simp only at HT1 HT2 HT3 HT4 HT5
  have c1 : strB a ++ ⟨#[46]⟩ = strB (a ++ [46]) := strB_app a [46]
  have c2 : strB (a ++ [46]) ++ strB b = strB (a ++ 46 :: b) := by rw [strB_app]; congr 1; simp
  have c3 : strB (a ++ 46 :: b) ++ strB c = strB (a ++ 46 :: (b ++ c)) := by rw [strB_app]; congr 1; simp
  have c4 : (⟨#[45]⟩ : ByteArray) ++ strB a = strB (45 :: a) := strB_app [45] a
  have c5 : strB (45 :: a) ++ ⟨#[46]⟩ = strB (45 :: (a ++ [46])) := strB_app (45 :: a) [46]
  have c6 : strB (45 :: (a ++ [46])) ++ strB b = strB (45 :: (a ++ 46 :: b)) := by rw [strB_app]; congr 1; simp
  have c7 : strB (45 :: (a ++ 46 :: b)) ++ ⟨#[48]⟩ = strB (45 :: (a ++ 46 :: (b ++ [48]))) := by
    have := strB_app (45 :: (a ++ 46 :: b)) [48]
    rw [show strB [48] = (⟨#[48]⟩ : ByteArray) from rfl] at this
    rw [this]; congr 1; simp
  have c8 : (⟨#[46]⟩ : ByteArray) ++ strB b = strB (46 :: b) := strB_app [46] b
  have z1 : (strB a).size = 9 := by rw [strB_size, a1]
  have z2 : (strB b).size = 9 := by rw [strB_size, b1]
  have z3 : (strB c).size ≤ 5 := by rw [strB_size]; exact hcl
  have z4 : (strB (a ++ [46])).size = 10 := by rw [strB_size]; simp; omega
  have z5 : (strB (a ++ 46 :: b)).size = 19 := by rw [strB_size]; simp; omega
  have z6 : (strB (45 :: a)).size = 10 := by rw [strB_size]; simp; omega
  have z7 : (strB (45 :: (a ++ [46]))).size = 11 := by rw [strB_size]; simp; omega
  have z8 : (strB (45 :: (a ++ 46 :: b))).size = 20 := by rw [strB_size]; simp; omega
  clear t1 t2 t3 t4 t5 hT hl1 a1 a3 b1 b3 hla hlb hcl htab herr
  generalize strB (45 :: (a ++ 46 :: (b ++ [48]))) = S8 at *
  generalize strB (45 :: (a ++ 46 :: b)) = S7 at *
  generalize strB (45 :: (a ++ [46])) = S6 at *
  generalize strB (45 :: a) = S5 at *
  generalize strB (a ++ 46 :: (b ++ c)) = S4 at *
  generalize strB (a ++ 46 :: b) = S3 at *
  generalize strB (a ++ [46]) = S2 at *
  generalize strB (46 :: b) = S9 at *
  generalize strB a = SA at *
  generalize strB b = SB at *
  generalize strB c = SC at *
  generalize strB DA = TA at *
  generalize strB DB = TB at *
  have HC := Lib.hid (⟨c1, c2, c3, c4, c5, c6, c7, c8⟩ : _ ∧ _ ∧ _ ∧ _ ∧ _ ∧ _ ∧ _ ∧ _)
  clear c1 c2 c3 c4 c5 c6 c7 c8
  go_enter Tryd.func4, Tryd.ntmps4
  go_upto_region 2 with fail
  rw [← hs, ← hn, ← hq]
  clear m0 m1 m2 hs hn hq hx0 hx1 hx2 hN
  go_quiet (first | (go_at_call 12; with_reducible refine Calls.quiet_of_same (HD1.out _)) | (go_at_call 12; with_reducible refine Calls.quiet_of_same (HD2.out _)) | (go_at_call 12; with_reducible refine Calls.quiet_of_same (HD3.out _)))
  clear hea heb hza hzb
  obtain ⟨w1, hw1⟩ : ∃ w1, w1 = w.drewN nq := ⟨_, rfl⟩
  have HK1 : Hid (Kept NoB w w1) := Lib.hid (by rw [hw1]; exact (Kept.refl _ _).drewN _)
  rw [← hw1]
  clear hw1
  obtain ⟨c1, c2, c3, c4, c5, c6, c7, c8⟩ := HC.out
  go_wp2_with fail
  refine (HT1.out _).mono ?_
  rintro e w2 ⟨rfl, hk⟩
  have HK2 := Lib.hid (HK1.out.trans hk)
  clear hk
  go_wp2_with fail
  refine (HT2.out _).mono ?_
  rintro e w3 ⟨rfl, hk⟩
  have HK3 := Lib.hid (HK2.out.trans hk)
  clear hk
  go_wp2_with fail
  refine (HT3.out _).mono ?_
  rintro e w4 ⟨rfl, hk⟩
  have HK4 := Lib.hid (HK3.out.trans hk)
  clear hk
  go_wp2_with fail
  refine (HT4.out _).mono ?_
  rintro e w5 ⟨rfl, hk⟩
  have HK5 := Lib.hid (HK4.out.trans hk)
  clear hk
  go_wp2_with fail
  refine (HT5.out _).mono ?_
  rintro e w6 ⟨rfl, hk⟩
  have HK6 := Lib.hid (HK5.out.trans hk)
  clear hk c1 c2 c3 c4 c5 c6 c7 c8
  have HA := Lib.hid (awake18 w6 (HT.out.keptNo HK6.out) (HE.out.keptNo HK6.out))
  go_wp2_with fail
  refine HA.out.mono ?_
  rintro e w7 ⟨rfl, hk⟩
  have HK7 := Lib.hid (HK6.out.trans hk)
  clear hk
  go_wp2
  go_ret
  exact ⟨rfl, HK7.out.belowNo (Below.refl _ _)⟩
end Go.Proofs.YtclcgiochjibjaaDoor
