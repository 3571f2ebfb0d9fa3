/-
  pax.cut.
-/
import Derived.Test.YtclcgiochjibjaaGreatDoorPaxW
namespace Go.Proofs.YtclcgiochjibjaaGreatDoor
open Go.RowKit Go.Lib
set_option linter.unusedVariables false
set_option linter.unusedSimpArgs false

/-- What cut tells. -/
def CutR (l : List UInt8) (e : Ending) : Prop := (cutS l = none ∧ e = .returned (.tuple #[.string ⟨#[]⟩, .bool false])) ∨ ∃ t, cutS l = some t ∧ e = .returned (.tuple #[.string (strB t), .bool true])

set_option maxRecDepth 20000 in
set_option maxHeartbeats 4000000 in
theorem paxcut_any (l : List UInt8) (w : World) (hl : l.length ≤ 70000) (htab : Pow10 w) (herr : ErrVars w) :
    Calls Tryz.prog 17 #[.string (strB l)] w fun e w' => CutR l e ∧ Kept NoB w w' := by
  have HT := Lib.hid htab; have HE := Lib.hid herr
  clear htab herr
  have hD := digits_any 65536 (by decide) (by decide) w HT.out
  rw [show itoa 65536 = [54, 53, 53, 51, 54] from by decide +kernel] at hD
  have HD := Lib.hid hD
  clear hD
  obtain ⟨N, hN⟩ : ∃ N, N = l.length := ⟨_, rfl⟩
  obtain ⟨S, hS⟩ : ∃ S, S = strB l := ⟨_, rfl⟩
  have hSs : S.size = N := by rw [hS, strB_size, hN]
  obtain ⟨X, hX⟩ : ∃ X, X = strB (l.take 6) := ⟨_, rfl⟩
  have hx : S.extract 0 (min (N : Int) 6).toNat = X := by
    rw [hS, strB_extract, hX, List.drop_zero, Nat.sub_zero]
    congr 1
    rw [List.take_eq_take_iff]
    omega
  have hXs : X.size ≤ 6 := by rw [hX, strB_size, List.length_take]; omega
  have hCut := fun W => cut_any X 32 W (by omega)
  rw [hX, strB_data, ← hX] at hCut
  obtain ⟨p, hp⟩ : ∃ p, p = cutP 32 (l.take 6) := ⟨_, rfl⟩
  have hps : p.1.length ≤ 6 := by
    rw [hp]
    rcases cutP_index 32 (l.take 6) with ⟨_, h⟩ | ⟨k, _, _, h⟩
    · rw [h]; simp only [List.length_take]; omega
    · rw [h]; simp only [List.length_take]; omega
  rw [← hp] at hCut
  have HCut := Lib.hid hCut
  have HNum := Lib.hid (fun (W : World) (h1 : Pow10 W) (h2 : ErrVars W) => number_any (strB p.1) W (by rw [strB_size]; omega) h1 h2)
  have hcs : cutS l = if p.2.2 = false then none else if (numL p.1).2 = false then none else if (numL p.1).1 < 1 ∨ (l.length : Int) < (numL p.1).1 then none else some (l.take (numL p.1).1.toNat) := by rw [hp]; rfl
  rw [← hN] at hcs hl
  have HCS := Lib.hid hcs
  have hTk : ∀ n : Nat, S.extract 0 n = strB (l.take n) := fun n => by rw [hS, strB_extract]; simp
  have HTk := Lib.hid hTk
  rw [← hS]
  clear hcs hCut hp hN hS hX hTk
  have hds : (⟨([54, 53, 53, 51, 54] : List UInt8).toArray⟩ : ByteArray).size = 5 := rfl
  obtain ⟨D5, hD5⟩ : ∃ D5, D5 = (⟨([54, 53, 53, 51, 54] : List UInt8).toArray⟩ : ByteArray) := ⟨_, rfl⟩
  rw [← hD5] at HD hds
  clear hD5
  go_enter Tryz.func17, Tryz.ntmps17
  go_wp2_with fail
  refine HD.out.mono ?_
  rintro e w1 ⟨rfl, hk1⟩
  have HK1 := Lib.hid hk1
  clear hk1
  obtain ⟨p1, p2, p3⟩ := p
  simp only at HCut HNum HCS hps
  go_wp2_with fail
  refine (HCut.out _).mono ?_
  rintro e w2 ⟨rfl, hk2⟩
  have HK2 := Lib.hid (HK1.out.trans hk2)
  clear hk2 hx hXs
  cases p3 with
  | false =>
    have HF : Hid (cutS l = none) := Lib.hid (by rw [HCS.out, if_pos rfl])
    go_wp2
    go_ret2
    exact ⟨.inl ⟨HF.out, rfl⟩, HK2.out⟩
  | true =>
    have HF := HCS.out
    rw [if_neg (by decide)] at HF
    have HN2 := Lib.hid (HNum.out w2 (HT.out.keptNo HK2.out) (HE.out.keptNo HK2.out))
    obtain ⟨nv, hnv⟩ : ∃ nv, nv = numL p1 := ⟨_, rfl⟩
    have HN3 : Hid (Calls Tryz.prog 33 #[.string (strB p1)] w2 fun e w' => e = .returned (.tuple #[.int .i64 nv.1, .bool nv.2]) ∧ Kept NoB w2 w') := Lib.hid (by
      have := HN2.out
      rw [strB_data, ← hnv] at this
      exact this)
    rw [← hnv] at HF
    have HF2 := Lib.hid HF
    have hbd : -9223372036854775808 ≤ nv.1 ∧ nv.1 ≤ 9223372036854775807 := by
      rw [hnv]
      unfold numL
      cases ha : Lib.atoiAll p1 with
      | ok v =>
        have := Lib.atoiAll_bounds ha
        simp only
        split
        · exact ⟨this.1, this.2⟩
        · simp
      | _ => simp
    clear HF hnv HN2 HNum HCut
    generalize strB p1 = P1 at *
    generalize strB p2 = P2 at *
    obtain ⟨nv1, nv2⟩ := nv
    simp only at HN3 HF2 hbd
    go_wp2_with fail
    refine HN3.out.mono ?_
    rintro e w3 ⟨rfl, hk3⟩
    have HK3 := Lib.hid (HK2.out.trans hk3)
    clear hk3
    cases nv2 with
    | false =>
      have HG : Hid (cutS l = none) := Lib.hid (by rw [HF2.out, if_pos rfl])
      go_wp2
      go_ret2
      exact ⟨.inl ⟨HG.out, rfl⟩, HK3.out⟩
    | true =>
      have HG := HF2.out
      rw [if_neg (by decide)] at HG
      have HG2 := Lib.hid HG
      clear HG
      by_cases h1 : nv1 < 1
      · have HH : Hid (cutS l = none) := Lib.hid (by rw [HG2.out, if_pos (.inl h1)])
        go_wp2
        go_ret2
        exact ⟨.inl ⟨HH.out, rfl⟩, HK3.out⟩
      · by_cases h2 : (N : Int) < nv1
        · have HH : Hid (cutS l = none) := Lib.hid (by rw [HG2.out, if_pos (.inr h2)])
          go_wp2
          go_ret2
          exact ⟨.inl ⟨HH.out, rfl⟩, HK3.out⟩
        · have HH : Hid (cutS l = some (l.take nv1.toNat)) := Lib.hid (by rw [HG2.out, if_neg (by omega)])
          obtain ⟨n, rfl⟩ : ∃ n : Nat, nv1 = (n : Int) := ⟨nv1.toNat, by omega⟩
          have ht := HTk.out n
          go_wp2
          go_ret2
          exact ⟨.inr ⟨_, HH.out, by rw [Int.toNat_natCast, ← ht]; rfl⟩, HK3.out⟩
end Go.Proofs.YtclcgiochjibjaaGreatDoor
