/-
  The library's stable sort at leaves: a range put behind the next one.
-/
import Derived.Test.YtokdlmpnokmniaaSortA
namespace Go.Proofs.Ytokdlmpnokmniaa
open Go.RowKit
set_option linter.unusedVariables false
set_option linter.unusedSimpArgs false

theorem split_at (X : List Lf) (j i : Nat) (h : X.length = i) (hj : j ≤ i) : ∃ X1 X2, X = X1 ++ X2 ∧ X1.length = j ∧ X2.length + j = i :=
  ⟨X.take j, X.drop j, (List.take_append_drop j X).symm, by rw [List.length_take]; omega, by rw [List.length_drop]; omega⟩
theorem i64_sub (a b d : Nat) (h : d + b = a) (ha : a ≤ 100000) : IntKind.i64.wrap ((a : Int) - (b : Int)) = (d : Int) := by rw [IntWalk.i64_in _ (by omega)]; omega
theorem i64_add (a b d : Nat) (h : a + b = d) (ha : d ≤ 100000) : IntKind.i64.wrap ((a : Int) + (b : Int)) = (d : Int) := by rw [IntWalk.i64_in _ (by omega)]; omega

set_option maxRecDepth 20000 in
set_option maxHeartbeats 1000000 in
theorem rotate_calls (G n c a m b : Nat) (p L R q : List Lf) (fv : Value) (w : World) (h : SrtSt G n c w w (p ++ (L ++ (R ++ q)))) (ha : p.length = a) (hL : a + L.length = m) (hR : m + R.length = b) (h1 : 1 ≤ L.length) (h2 : 1 ≤ R.length) (hn : n ≤ 1000) :
    Calls Try.prog 52 #[.slice (some ⟨G, 0, none⟩) n c, .int .i64 (a : Int), .int .i64 (m : Int), .int .i64 (b : Int), fv] w fun e w' => e = .returned (.tuple #[]) ∧ SrtSt G n c w w' (p ++ (R ++ (L ++ q))) := by
  have hlen := h.len
  obtain ⟨i0, hi0⟩ : ∃ i, i = L.length := ⟨_, rfl⟩
  obtain ⟨j0, hj0⟩ : ∃ j, j = R.length := ⟨_, rfl⟩
  have hbn : b ≤ n := by simp at hlen; omega
  rw [← hi0] at hL h1
  rw [← hj0] at hR h2
  have HS0 := Lib.hid h; have HA := Lib.hid ha; have HI0 := Lib.hid hi0; have HJ0 := Lib.hid hj0
  have e1 := i64_sub m a i0 (by omega) (by omega)
  have e2 := i64_sub b m j0 (by omega) (by omega)
  clear h ha hlen hi0 hj0
  go_enter Try.func52, Try.ntmps52
  go_wp2
  go_loopw [10, 11] (fun v10 v11 wr => ∃ (i j d : Nat) (P X Y Q : List Lf), v10 = .int .i64 (i : Int) ∧ v11 = .int .i64 (j : Int) ∧ 1 ≤ i ∧ 1 ≤ j ∧ d + i = m ∧ m + j ≤ n ∧ Hid (P.length = d ∧ X.length = i ∧ Y.length = j) ∧ Hid (p ++ (R ++ (L ++ q)) = P ++ (Y ++ (X ++ Q))) ∧ Hid (SrtSt G n c w wr (P ++ (X ++ (Y ++ Q))))) (fun v10 v11 _ => (intOf v10).toNat + (intOf v11).toNat)
  case atStart => exact ⟨i0, j0, a, p, L, R, q, rfl, rfl, by omega, by omega, by omega, by omega, Lib.hid ⟨HA.out, HI0.out.symm, HJ0.out.symm⟩, Lib.hid rfl, HS0⟩
  case round =>
    clear e1 e2
    obtain ⟨i, j, d, P, X, Y, Q, rfl, rfl, hi, hj, hd, hmj, HL, HE, HS⟩ := hrel
    have e3 := i64_sub m i d (by omega) (by omega)
    by_cases hne : i = j
    · subst hne
      have hsw := swapRange_calls G n c d m i P X [] Y Q fv wr (by simpa using HS.out.start) HL.out.1 HL.out.2.1 HL.out.2.2 (by simpa using hd) hn
      have HSw := Lib.hid hsw
      have g1 : (!((i : Int) == (i : Int))) = false := by simp
      clear hsw
      go_wp2_with fail
      refine HSw.out.mono ?_
      rintro e w1 ⟨rfl, hs⟩
      have HS1 := Lib.hid hs
      clear hs
      go_wp2
      go_end0
      refine ⟨rfl, ?_⟩
      have := HS.out.from HS1.out
      rw [HE.out]
      simpa using this
    · have g1 : ((i : Int) == (j : Int)) = false := by simp; omega
      have g2 : ¬ (i : Int) = (j : Int) := by omega
      by_cases hij : (j : Int) < i
      · obtain ⟨X1, X2, rfl, hX1, hX2⟩ := split_at X j i HL.out.2.1 (by omega)
        have hsw := swapRange_calls G n c d m j P X1 X2 Y Q fv wr (by simpa [List.append_assoc] using HS.out.start) HL.out.1 hX1 HL.out.2.2 (by omega) hn
        have HSw := Lib.hid hsw
        obtain ⟨t, ht⟩ : ∃ t, t = i - j := ⟨_, rfl⟩
        have e4 := i64_sub i j t (by omega) (by omega)
        have HX1 := Lib.hid hX1; have HX2 := Lib.hid hX2
        clear hsw hX1 hX2
        go_wp2_with fail
        refine HSw.out.mono ?_
        rintro e w1 ⟨rfl, hs⟩
        have HS1 := Lib.hid hs
        clear hs
        go_wp2
        go_roundw
        case rel =>
          refine ⟨t, j, d + j, P ++ Y, X2, X1, Q, by go_num, rfl, by omega, by omega, by omega, by omega, Lib.hid ⟨by rw [List.length_append]; have := HL.out; omega, by have := HX2.out; omega, HX1.out⟩, Lib.hid ?_, Lib.hid ?_⟩
          · rw [HE.out]
            simp [List.append_assoc]
          · have := HS.out.from HS1.out
            simpa [List.append_assoc] using this
        case measure => simp [intOf]; omega
      · obtain ⟨Y1, Y2, rfl, hY1, hY2⟩ := split_at Y (j - i) j HL.out.2.2 (by omega)
        obtain ⟨s, hs⟩ : ∃ s, s = m + j := ⟨_, rfl⟩
        obtain ⟨t, ht⟩ : ∃ t, t + i = s := ⟨s - i, by omega⟩
        obtain ⟨r, hr⟩ : ∃ r, r + i = j := ⟨j - i, by omega⟩
        have hsw := swapRange_calls G n c d t i P X Y1 Y2 Q fv wr (by simpa [List.append_assoc] using HS.out.start) HL.out.1 HL.out.2.1 (by omega) (by omega) hn
        have HSw := Lib.hid hsw
        have e4 := i64_add m j s (by omega) (by omega)
        have e5 := i64_sub s i t (by omega) (by omega)
        have e6 := i64_sub j i r (by omega) (by omega)
        have HY1 := Lib.hid hY1; have HY2 := Lib.hid hY2; have HR := Lib.hid hr
        clear hsw hY1 hY2 hs ht hr
        go_wp2_with fail
        refine HSw.out.mono ?_
        rintro e w1 ⟨rfl, hs⟩
        have HS1 := Lib.hid hs
        clear hs
        go_wp2
        go_roundw
        case rel =>
          have hr := HR.out
          refine ⟨i, r, d, P, Y2, Y1, X ++ Q, rfl, by go_num, by omega, by omega, by omega, by omega, Lib.hid ⟨HL.out.1, by have := HY2.out; omega, by rw [HY1.out]; omega⟩, Lib.hid ?_, Lib.hid ?_⟩
          · rw [HE.out]
            simp [List.append_assoc]
          · have := HS.out.from HS1.out
            simpa [List.append_assoc] using this
        case measure => have hr := HR.out; simp [intOf]; omega
end Go.Proofs.Ytokdlmpnokmniaa
