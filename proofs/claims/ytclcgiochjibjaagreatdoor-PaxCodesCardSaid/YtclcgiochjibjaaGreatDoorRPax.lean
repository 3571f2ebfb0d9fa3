/-
  The document's own Pax.
-/
import Derived.Test.YtclcgiochjibjaaGreatDoorRRec
namespace Go.Proofs.YtclcgiochjibjaaGreatDoor
open Go.RowKit
set_option linter.unusedVariables false
set_option linter.unusedSimpArgs false

set_option maxRecDepth 20000 in
set_option maxHeartbeats 4000000 in
theorem rpax_any (ao : Option Addr) (n cap : Nat) (rs : List KVb) (w : World) (hn : n = rs.length) (hr : RdK w w.heap.size ao rs) (hs : ∀ p ∈ rs, p.1.length + p.2.length ≤ 60000) (hc : n ≤ cap) (hcm : cap ≤ maxLen) :
    Calls Tryz.prog 7 #[.slice ao n cap] w fun e w' => e = .returned (.tuple #[.string (strB ((encS rs).getD [])), .bool (encS rs).isSome]) ∧ Kept NoB w w' := by
  have HR := Lib.hid hr; have HN := Lib.hid hn
  have HSm : Hid (∀ i, i < n → (rs.getD i ([], [])).1.length + (rs.getD i ([], [])).2.length ≤ 60000) := Lib.hid (fun i hi => by
    rw [hn] at hi
    have : rs.getD i ([], []) = rs[i] := by simp [List.getD, hi]
    rw [this]; exact hs _ (List.getElem_mem hi))
  have HE1 := Lib.hid (fun i (hi : i < n) => enc_bad rs i (by omega))
  have HTk := Lib.hid (fun i (hi : i < n) => recsB_take rs i (by omega))
  have HAl := Lib.hid (fun i (hi : i < n) => all_take rs i (by omega))
  have HLe := Lib.hid (recsB_take_le rs)
  have hcm2 : n ≤ 9223372036854775807 := by unfold maxLen at hcm; omega
  obtain ⟨Q, hQ⟩ : ∃ Q, Q = strB ((encS rs).getD []) := ⟨_, rfl⟩
  obtain ⟨P, hP⟩ : ∃ P, P = (encS rs).isSome := ⟨_, rfl⟩
  rw [← hQ, ← hP]
  have HF0 : Hid (encS rs = none → Q = ⟨#[]⟩ ∧ P = false) := Lib.hid (fun h => by rw [hQ, hP, h]; exact ⟨rfl, rfl⟩)
  have HF1 : Hid (encS rs = some (recsB rs) → Q = strB (recsB rs) ∧ P = true) := Lib.hid (fun h => by rw [hQ, hP, h]; exact ⟨rfl, rfl⟩)
  clear hr hn hs hcm hc hQ hP
  go_enter Tryz.func7, Tryz.ntmps7
  go_wp2
  go_loopw [4, 5] (fun v4 v5 wr => ∃ (i : Nat) (S : ByteArray), v4 = .string S ∧ v5 = .int .i64 (i : Int) ∧ i ≤ n ∧ S.size ≤ 65536 ∧ Hid (S = strB (recsB (rs.take i)) ∧ (rs.take i).all okR = true ∧ Kept NoB w wr)) (fun _ v5 _ => n - (intOf v5).toNat)
  case atStart => exact ⟨0, ⟨#[]⟩, rfl, rfl, by omega, by decide, Lib.hid ⟨rfl, rfl, Kept.refl _ _⟩⟩
  case round =>
    obtain ⟨i, S, rfl, rfl, hi, hS, HS⟩ := hrel
    by_cases hlt : (i : Int) < (n : Int)
    · have hin : i < n := by omega
      obtain ⟨b, off, rfl, hb, c0, c1⟩ := HR.out i (by have := HN.out; omega)
      have d0 := HS.out.2.2.cell c0
      have d1 := HS.out.2.2.cell c1
      have e1 := HE1.out i hin; have e3 := HTk.out i hin; have e4 := HAl.out i hin; have e5 := HSm.out i hin
      have e6 := HLe.out (i + 1)
      obtain ⟨r, hr⟩ : ∃ r, r = rs.getD i ([], []) := ⟨_, rfl⟩
      rw [← hr] at d0 d1 e1 e3 e4 e5
      rw [show off + (i * 2 + 1) = off + i * 2 + 1 by omega] at d1
      have hK := fun W => kvok_any r W (by omega)
      have hRec := fun W => rrecord_any r W (by omega)
      have hrl : (recB r).length ≤ 60009 := by
        have h1 := recB_len r (by rw [restB_len]; omega)
        have h2 := recD_le (restB r).length
        have h3 := restB_len r
        rw [h1, recL]; omega
      obtain ⟨ok, hok⟩ : ∃ ok, ok = okR r := ⟨_, rfl⟩
      rw [← hok] at hK e4 e1
      have hAz := strB_size r.1
      have hBz := strB_size r.2
      have hXz := strB_size (recB r)
      have hadd : strB (recsB (rs.take i)) ++ strB (recB r) = strB (recsB (rs.take (i + 1))) := by rw [strB_app, e3]
      rw [← HS.out.1] at hadd
      obtain ⟨X, hX⟩ : ∃ X, X = strB (recB r) := ⟨_, rfl⟩
      rw [← hX] at hRec hXz hadd
      obtain ⟨S2, hS2⟩ : ∃ S2, S2 = strB (recsB (rs.take (i + 1))) := ⟨_, rfl⟩
      rw [← hS2] at hadd
      have hS2z : S2.size = (recsB (rs.take (i + 1))).length := by rw [hS2, strB_size]
      have hq1 : ¬ (65536 : Int) < ((strB r.1).size : Int) := by omega
      have hq2 : ¬ (65536 : Int) < ((strB r.2).size : Int) := by omega
      have hXb : X.size ≤ 60009 := by omega
      have E1 := Lib.hid e1; have E4 := Lib.hid e4; have E6 := Lib.hid e6; have HK := Lib.hid hK; have HRec := Lib.hid hRec; have HS2 := Lib.hid hS2; have HS2z := Lib.hid hS2z; have Hok := Lib.hid hok
      clear c0 c1 hr e1 e3 e4 e5 e6 hX hrl hXz hS2 hS2z hok hK hRec
      generalize strB r.1 = A at *
      generalize strB r.2 = B at *
      go_wp2_with fail
      refine (HK.out _).mono ?_
      rintro e w1 ⟨rfl, hk1⟩
      have d0' := hk1.cell d0
      have d1' := hk1.cell d1
      have HK1 := Lib.hid (HS.out.2.2.trans hk1)
      clear hk1 d0 d1
      cases ok with
      | false =>
        have HF := HF0.out (E1.out rfl)
        obtain ⟨f1, f2⟩ := HF
        have F1 := Lib.hid f1; have F2 := Lib.hid f2
        clear f1 f2
        go_wp2
        go_ret2
        exact ⟨by rw [F1.out, F2.out]; rfl, HK1.out⟩
      | true =>
        have E42 := Lib.hid (E4.out HS.out.2.1 (by trivial))
        go_wp2_with fail
        refine (HRec.out _).mono ?_
        rintro e w2 ⟨rfl, hk2⟩
        have HK2 := Lib.hid (HK1.out.trans hk2)
        clear hk2 d0' d1'
        by_cases hbig : (65536 : Int) < (S2.size : Int)
        · have HF : Hid (Q = ⟨#[]⟩ ∧ P = false) := Lib.hid (HF0.out (by
            unfold encS
            rw [if_neg]
            rintro ⟨_, h⟩
            have := E6.out
            have := HS2z.out
            omega))
          go_wp2
          go_ret2
          exact ⟨by rw [HF.out.1, HF.out.2]; rfl, HK2.out⟩
        · have hsm : S2.size ≤ 65536 := by omega
          go_wp2
          go_roundw
          case rel => exact ⟨i + 1, S2, rfl, by go_num, by omega, hsm, Lib.hid ⟨HS2.out, E42.out, HK2.out⟩⟩
          case measure => simp [intOf]; omega
    · have hie : i = n := by omega
      have HF : Hid (Q = S ∧ P = true) := Lib.hid (by
        have h := HS.out
        rw [hie, HN.out, List.take_length] at h
        rw [h.1]
        refine HF1.out ?_
        unfold encS
        have h2 : S.size = (recsB rs).length := by rw [h.1, strB_size]
        exact if_pos ⟨h.2.1, by omega⟩)
      clear hie
      go_wp2
      go_ret2
      exact ⟨by rw [HF.out.1, HF.out.2]; rfl, HS.out.2.2⟩
end Go.Proofs.YtclcgiochjibjaaGreatDoor
