/-
  The document's side of maps: Dense.
-/
import Derived.Test.YtbambcondcikbaaDoorRMapC
namespace Go.Proofs.YtbambcondcikbaaDoor
open Go.RowKit
set_option linter.unusedVariables false
set_option linter.unusedSimpArgs false

def RDenR (size : Int) (l : List Pc) (e : Ending) : Prop :=
  ((okS size l && decide (size ≤ 1048576)) = false ∧ e = .returned (.tuple #[.string (strB []), .bool false])) ∨
    ((okS size l && decide (size ≤ 1048576)) = true ∧ e = .returned (.tuple #[.string (strB (denS size.toNat l)), .bool true]))
set_option maxRecDepth 20000 in
set_option maxHeartbeats 8000000 in
theorem rdense_any (size : Int) (ao : Option Addr) (n cap : Nat) (l : List Pc) (w : World) (h0 : -9223372036854775808 ≤ size) (h1 : size ≤ 9223372036854775807) (hn : n = l.length) (hr : RdP w w.heap.size ao l) (hi : IntP l) (hc : n ≤ cap) (hcm : cap ≤ maxLen) :
    Calls Tryd.prog 24 #[.int .i64 size, .slice ao n cap] w fun e w' => RDenR size l e ∧ Kept NoB w w' := by
  have HO := Lib.hid (rmapok_any size ao n cap l w h0 h1 hn hr hi hc hcm)
  have HR := Lib.hid hr; have HN := Lib.hid hn
  have hcm2 : n ≤ 9223372036854775807 := by unfold maxLen at hcm; omega
  obtain ⟨ok, hok⟩ : ∃ ok, ok = okS size l := ⟨_, rfl⟩
  rw [← hok] at HO
  have HOk := Lib.hid hok
  clear hok hr hn hi hcm
  go_enter Tryd.func24, Tryd.ntmps24
  go_wp2_with fail
  with_reducible refine HO.out.mono ?_
  rintro e w1 ⟨rfl, hk1⟩
  have HK1 := Lib.hid hk1
  clear hk1
  cases ok with
  | false =>
    have HF : Hid ((okS size l && decide (size ≤ 1048576)) = false) := Lib.hid (by rw [← HOk.out]; rfl)
    go_wp2
    go_ret2
    exact ⟨.inl ⟨HF.out, rfl⟩, HK1.out⟩
  | true =>
    by_cases hbig : 1048576 < size
    · have HF : Hid ((okS size l && decide (size ≤ 1048576)) = false) := Lib.hid (by rw [decide_eq_false (by omega)]; simp)
      go_wp2
      go_ret2
      exact ⟨.inl ⟨HF.out, rfl⟩, HK1.out⟩
    · have hok2 := HOk.out.symm
      have hs0 : 0 ≤ size := by
        simp only [okS, Bool.and_eq_true, decide_eq_true_eq] at hok2
        exact hok2.1.1.1
      have HT : Hid ((okS size l && decide (size ≤ 1048576)) = true) := Lib.hid (by rw [← HOk.out, decide_eq_true (by omega)]; rfl)
      obtain ⟨N, rfl⟩ : ∃ N : Nat, size = (N : Int) := ⟨size.toNat, by omega⟩
      have hN : N ≤ 1048576 := by omega
      have HLen := Lib.hid (fun i => dnL_len (N : Int) l N rfl hok2 i)
      have HDen := Lib.hid (dn_den l N hok2)
      have HSt := Lib.hid (fun i (hi : i < n) => dnL_take l i (by have := HN.out; omega))
      clear hok2 HOk hbig hs0
      go_wp2
      go_loopw [6, 7] (fun v6 v7 wr => ∃ (i : Nat) (s : List UInt8), v6 = .string (strB s) ∧ v7 = .int .i64 (i : Int) ∧ i ≤ n ∧ Hid (s = dnL (l.take i)) ∧ Hid (Kept NoB w wr)) (fun _ v7 _ => n - (intOf v7).toNat)
      case atStart => exact ⟨0, [], rfl, rfl, by omega, Lib.hid rfl, HK1⟩
      case round =>
        obtain ⟨i, s, rfl, rfl, hi, HS, HK⟩ := hrel
        have hlen := HLen.out i
        rw [← HS.out] at hlen
        obtain ⟨hl1, hl2⟩ := hlen
        have hsz := strB_size s
        by_cases hlt : (i : Int) < (n : Int)
        · have hin : i < n := by omega
          have hil : i < l.length := by rw [← HN.out]; exact hin
          obtain ⟨b, off, bo, bc', rfl, hb, c0, c1, hrd, hbn, hbc, _⟩ := HR.out i hil
          have d0 := HK.out.cell c0
          have d1 := HK.out.cell c1
          have hrd3 := hrd.keptNo HK.out
          obtain ⟨hl3, hl4⟩ := hl2 hil
          have hst := HSt.out i hin
          rw [← HS.out] at hst
          rw [show off + (i * 2 + 1) = off + i * 2 + 1 by omega] at d1
          obtain ⟨p, hp⟩ : ∃ p, p = l.getD i (0, []) := ⟨_, rfl⟩
          rw [← hp] at d0 d1 hrd3 hl3 hl4 hst
          obtain ⟨a, ha⟩ : ∃ a : Nat, p.1 = (a : Int) := ⟨p.1.toNat, by omega⟩
          obtain ⟨M, hM⟩ : ∃ M, M = p.2 := ⟨_, rfl⟩
          obtain ⟨m, hm⟩ : ∃ m, m = s.length := ⟨_, rfl⟩
          rw [dnS, ha, ← hM, ← hm] at hst
          rw [ha] at d0 hl3 hl4
          rw [← hM] at d1 hrd3 hl4
          rw [← hm] at hl1 hl3 hsz
          have hnt := fun W => rnoughts_any ((a : Int) - (m : Int)) W (by omega) (by omega)
          obtain ⟨z, hz⟩ : ∃ z, z = List.replicate ((a : Int) - (m : Int)).toNat (0 : UInt8) := ⟨_, rfl⟩
          have hzl : z.length ≤ 2000000 := by rw [hz, List.length_replicate]; omega
          rw [← hz] at hnt hst
          have b1 : (strB s).size ≤ 2000000 := by rw [strB_size]; omega
          have b2 : (strB z).size ≤ 2000000 := by rw [strB_size]; omega
          have b3 : (strB M).size ≤ 2000000 := by rw [strB_size]; omega
          have b4 : (strB s ++ strB z).size ≤ 4000000 := by rw [ByteArray.size_append]; omega
          have a1 := fun W => run_string_add_sum (P := Tryd.prog) W (strB s) (strB z) (by omega)
          have a2 := fun W => run_string_add_sum (P := Tryd.prog) W (strB s ++ strB z) (strB M) (by omega)
          have HSt2 : Hid (strB s ++ strB z ++ strB M = strB (dnL (l.take (i + 1)))) := Lib.hid (by rw [strB_app, strB_app, hst])
          have HNt := Lib.hid hnt
          have HRd := Lib.hid hrd3
          have hMl : M.length ≤ N := by omega
          have HNl : bo = none → bc' = 0 := hbn
          have HBc := Lib.hid HNl
          clear hrd hrd3 c0 c1 hil hst hnt hz hp hM hm hl2 hbn HNl ha
          have hc0 : ∀ W, Kept NoB wr W → W.cell? ⟨b, off + i * 2, none⟩ = some (.int .i64 (a : Int)) := fun W hk => hk.cell d0
          have hc1 : ∀ W, Kept NoB wr W → W.cell? ⟨b, off + i * 2 + 1, none⟩ = some (.slice bo M.length bc') := fun W hk => hk.cell d1
          have hcv : ∀ W, Kept NoB wr W → (convert 26 9 (.slice bo M.length bc')).run Tryd.prog W = .ok (.string (strB M)) W := fun W hk => by
            rw [← nb_str]
            exact conv_reads (HRd.out.kept hk (fun _ _ h => h)) (nb_len M).symm HBc.out
          have hww : IntKind.i64.wrap ((a : Int) - (m : Int)) = (a : Int) - (m : Int) := IntWalk.i64_in _ (by omega)
          have hk0 := Kept.refl NoB wr
          clear d0 d1
          go_upto_region 7 with fail
          go_region_held3 (fun W => Kept NoB wr W) (first | assumption | exact Kept.drew (by assumption) | exact Kept.trans (by assumption) hkn)
            (first
              | (go_at_call 38; ((with_reducible refine (HNt.out _).mono ?_); rintro e wn ⟨rfl, hkn⟩)))
          all_goals (
            have HKn := Lib.hid (HK.out.trans (show Kept NoB wr wn by assumption))
            rw [HSt2.out]
            have HX : Hid (dnL (l.take (i + 1)) = dnL (l.take (i + 1))) := Lib.hid rfl
            go_wp2
            go_roundw
            case rel => exact ⟨i + 1, dnL (l.take (i + 1)), rfl, by go_num, by omega, HX, HKn⟩
            case measure => simp [intOf]; omega)
        · have hie : i = n := by omega
          have hsd : s = dnL l := by
            have h := HS.out
            rw [hie, HN.out, List.take_length] at h
            exact h
          obtain ⟨m, hm⟩ : ∃ m, m = s.length := ⟨_, rfl⟩
          have hD := HDen.out
          rw [← hsd, ← hm] at hD
          rw [← hm] at hsz hl1
          have hnt := fun W => rnoughts_any ((N : Int) - (m : Int)) W (by omega) (by omega)
          rw [show ((N : Int) - (m : Int)).toNat = N - m by omega] at hnt
          obtain ⟨z, hz⟩ : ∃ z, z = List.replicate (N - m) (0 : UInt8) := ⟨_, rfl⟩
          have hzl : z.length ≤ 2000000 := by rw [hz, List.length_replicate]; omega
          rw [← hz] at hnt hD
          have b1 : (strB s).size ≤ 2000000 := by rw [strB_size]; omega
          have b2 : (strB z).size ≤ 2000000 := by rw [strB_size]; omega
          have a1 := fun W => run_string_add_sum (P := Tryd.prog) W (strB s) (strB z) (by omega)
          have HD : Hid (strB s ++ strB z = strB (denS N l)) := Lib.hid (by rw [strB_app, hD.2]); have HNt := Lib.hid hnt
          have hww : IntKind.i64.wrap ((N : Int) - (m : Int)) = (N : Int) - (m : Int) := IntWalk.i64_in _ (by omega)
          clear hie hsd hm hD hnt hz hl2 hcm2
          go_wp2_with fail
          with_reducible refine (HNt.out _).mono ?_
          rintro e w2 ⟨rfl, hk2⟩
          have HK2 := Lib.hid (HK.out.trans hk2)
          clear hk2
          go_wp2
          go_ret2
          exact ⟨.inr ⟨HT.out, by rw [Int.toNat_natCast, ← HD.out]; rfl⟩, HK2.out⟩
end Go.Proofs.YtbambcondcikbaaDoor
