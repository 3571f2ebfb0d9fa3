/-
  A tree of files in memory: two directories and two parts.
-/
import Derived.Test.YtpkdfkndmgijjaaFsU
namespace Go.Proofs.Ytpkdfkndmgijjaa
open Go.RowKit
set_option linter.unusedVariables false
set_option linter.unusedSimpArgs false
set_option maxRecDepth 20000

def placesE (a b : Int) : Int := if a = 10 ∨ b = 10 then 10 else if a = 12 ∨ b = 12 then 12 else if a = 9 ∨ b = 9 then 9 else 0
/-- What comes of places. -/
def PlacesP (E : Int) (x y : Option Nat) (w : World) (e : Ending) (w' : World) : Prop := e = .returned (.tuple #[ptrV (if E = 0 then x else none), ptrV (if E = 0 then y else none), .int .i64 E]) ∧ Kept NoB w w'

set_option maxHeartbeats 2000000 in
theorem places_in {L : Nat → Lab} {B : Int → Option Nat} {mb : Nat} {S : Nat → Prop} {w : World} {f : Nat} {T : FsP} (h : FsIn L B mb S w f T) (dir dst : Int) (hdir : -9223372036854775808 ≤ dir ∧ dir ≤ 9223372036854775807) (hdst : -9223372036854775808 ≤ dst ∧ dst ≤ 9223372036854775807)
    (part asn : List UInt8) (hs : part.length < 4294967281) (hs2 : asn.length < 4294967281) :
    Calls Try.prog 51 #[.pointer (some ⟨f, 0, none⟩), .int .i64 dir, .string (strB part), .int .i64 dst, .string (strB asn)] w (PlacesP (placesE (placeE T dir part) (placeE T dst asn)) (B dir) (B dst) w) := by
  have HP1 := Lib.hid (place_in h dir hdir part hs)
  have HP2 : Hid (∀ W, Kept NoB w W → Calls Try.prog 39 #[.pointer (some ⟨f, 0, none⟩), .int .i64 dst, .string (strB asn)] W fun e w' =>
      e = .returned (.tuple #[ptrV (if placeE T dst asn = 0 then B dst else none), .int .i64 (placeE T dst asn)]) ∧ Kept NoB W w') := Lib.hid (fun W hW => place_in (h.keptNo hW) dst hdst asn hs2)
  have hva : ∀ d p, placeE T d p = 0 ∨ placeE T d p = 9 ∨ placeE T d p = 10 ∨ placeE T d p = 12 := fun d p => by
    unfold placeE
    cases T.nd d with
    | none => simp
    | some n => simp only; split <;> (try split) <;> simp
  have hv1 := hva dir part
  have hv2 := hva dst asn
  obtain ⟨e1, he1⟩ : ∃ e1, e1 = placeE T dir part := ⟨_, rfl⟩
  obtain ⟨e2, he2⟩ : ∃ e2, e2 = placeE T dst asn := ⟨_, rfl⟩
  rw [← he1] at HP1 hv1 ⊢
  rw [← he2] at HP2 hv2 ⊢
  obtain ⟨x, hx⟩ : ∃ x, x = ptrV (if e1 = 0 then B dir else none) := ⟨_, rfl⟩
  obtain ⟨y, hy⟩ : ∃ y, y = ptrV (if e2 = 0 then B dst else none) := ⟨_, rfl⟩
  rw [← hx] at HP1
  rw [← hy] at HP2
  have HX := Lib.hid hx; have HY := Lib.hid hy; have HV := Lib.hid (And.intro hv1 hv2)
  clear h he1 he2 hx hy hv1 hv2 hva
  go_enter Try.func51, Try.ntmps51
  go_wp2_with fail
  refine HP1.out.mono ?_
  rintro e w1 ⟨rfl, hk1⟩
  have HK1 := Lib.hid hk1
  clear hk1 HP1
  go_wp2_with fail
  refine (HP2.out _ HK1.out).mono ?_
  rintro e w2 ⟨rfl, hk2⟩
  have HK2 := Lib.hid (HK1.out.trans hk2)
  clear hk2 HP2 HK1
  obtain ⟨w3, hw3⟩ : ∃ w3, w3 = w2.alloc (.cells #[.int .i64 10, .int .i64 12, .int .i64 9] 38) := ⟨_, rfl⟩
  have l0 : w3.cell? ⟨w2.heap.size, 0, none⟩ = some (.int .i64 10) := by rw [hw3]; exact cell_new 0 rfl
  have l1 : w3.cell? ⟨w2.heap.size, 1, none⟩ = some (.int .i64 12) := by rw [hw3]; exact cell_new 1 rfl
  have l2 : w3.cell? ⟨w2.heap.size, 2, none⟩ = some (.int .i64 9) := by rw [hw3]; exact cell_new 2 rfl
  have HK3 : Hid (Kept NoB w w3) := Lib.hid (by rw [hw3]; exact HK2.out.alloc _)
  go_wp2_with fail
  rw [← hw3]
  clear hw3 HK2
  go_loopw [10, 11, 33] (fun v10 v11 v33 wr => ∃ i : Nat, v10 = x ∧ v11 = y ∧ v33 = .int .i64 (i : Int) ∧ i ≤ 3 ∧ wr = w3 ∧ Hid ((1 ≤ i → e1 ≠ 10 ∧ e2 ≠ 10) ∧ (2 ≤ i → e1 ≠ 12 ∧ e2 ≠ 12) ∧ (3 ≤ i → e1 ≠ 9 ∧ e2 ≠ 9))) (fun _ _ v33 _ => 3 - (intOf v33).toNat)
  case atStart => exact ⟨0, rfl, rfl, rfl, by omega, rfl, Lib.hid ⟨fun e => by omega, fun e => by omega, fun e => by omega⟩⟩
  case round =>
    obtain ⟨i, rfl, rfl, rfl, hi, rfl, HI⟩ := hrel
    rcases (show i = 0 ∨ i = 1 ∨ i = 2 ∨ i = 3 by omega) with rfl | rfl | rfl | rfl
    · by_cases a1 : e1 = 10
      · have hor : e1 = 10 ∨ e2 = 10 := .inl a1
        have HE : Hid (placesE e1 e2 = 10) := Lib.hid (by unfold placesE; rw [if_pos hor])
        have b1 : (e1 == 10) = true := by simpa using a1
        clear hor a1
        go_wp2
        go_ret3
        refine ⟨?_, HK3.out⟩
        rw [HE.out]; rfl
      · have b1 : (e1 == 10) = false := by simpa using a1
        by_cases a2 : e2 = 10
        · have hor : e1 = 10 ∨ e2 = 10 := .inr a2
          have HE : Hid (placesE e1 e2 = 10) := Lib.hid (by unfold placesE; rw [if_pos hor])
          have b2 : (e2 == 10) = true := by simpa using a2
          clear hor a1 a2
          go_wp2
          go_ret3
          refine ⟨?_, HK3.out⟩
          rw [HE.out]; rfl
        · have b2 : (e2 == 10) = false := by simpa using a2
          have HN : Hid ((1 ≤ 1 → e1 ≠ 10 ∧ e2 ≠ 10) ∧ (2 ≤ 1 → e1 ≠ 12 ∧ e2 ≠ 12) ∧ (3 ≤ 1 → e1 ≠ 9 ∧ e2 ≠ 9)) := Lib.hid ⟨fun _ => ⟨a1, a2⟩, fun e => by omega, fun e => by omega⟩
          clear a1 a2
          go_wp2
          go_roundw
          case rel => exact ⟨1, rfl, rfl, by go_num, by omega, trivial, HN⟩
          case measure => simp [intOf]
    · by_cases a1 : e1 = 12
      · have hor : e1 = 12 ∨ e2 = 12 := .inl a1
        have HE : Hid (placesE e1 e2 = 12) := Lib.hid (by unfold placesE; rw [if_neg (fun e => by have := (HI.out.1 (by omega)); rcases e with e | e; exact this.1 e; exact this.2 e), if_pos hor])
        have b1 : (e1 == 12) = true := by simpa using a1
        clear hor a1
        go_wp2
        go_ret3
        refine ⟨?_, HK3.out⟩
        rw [HE.out]; rfl
      · have b1 : (e1 == 12) = false := by simpa using a1
        by_cases a2 : e2 = 12
        · have hor : e1 = 12 ∨ e2 = 12 := .inr a2
          have HE : Hid (placesE e1 e2 = 12) := Lib.hid (by unfold placesE; rw [if_neg (fun e => by have := (HI.out.1 (by omega)); rcases e with e | e; exact this.1 e; exact this.2 e), if_pos hor])
          have b2 : (e2 == 12) = true := by simpa using a2
          clear hor a1 a2
          go_wp2
          go_ret3
          refine ⟨?_, HK3.out⟩
          rw [HE.out]; rfl
        · have b2 : (e2 == 12) = false := by simpa using a2
          have HN : Hid ((1 ≤ 2 → e1 ≠ 10 ∧ e2 ≠ 10) ∧ (2 ≤ 2 → e1 ≠ 12 ∧ e2 ≠ 12) ∧ (3 ≤ 2 → e1 ≠ 9 ∧ e2 ≠ 9)) := Lib.hid ⟨fun _ => HI.out.1 (by omega), fun _ => ⟨a1, a2⟩, fun e => by omega⟩
          clear a1 a2
          go_wp2
          go_roundw
          case rel => exact ⟨2, rfl, rfl, by go_num, by omega, trivial, HN⟩
          case measure => simp [intOf]
    · by_cases a1 : e1 = 9
      · have hor : e1 = 9 ∨ e2 = 9 := .inl a1
        have HE : Hid (placesE e1 e2 = 9) := Lib.hid (by unfold placesE; rw [if_neg (fun e => by have := (HI.out.1 (by omega)); rcases e with e | e; exact this.1 e; exact this.2 e), if_neg (fun e => by have := (HI.out.2.1 (by omega)); rcases e with e | e; exact this.1 e; exact this.2 e), if_pos hor])
        have b1 : (e1 == 9) = true := by simpa using a1
        clear hor a1
        go_wp2
        go_ret3
        refine ⟨?_, HK3.out⟩
        rw [HE.out]; rfl
      · have b1 : (e1 == 9) = false := by simpa using a1
        by_cases a2 : e2 = 9
        · have hor : e1 = 9 ∨ e2 = 9 := .inr a2
          have HE : Hid (placesE e1 e2 = 9) := Lib.hid (by unfold placesE; rw [if_neg (fun e => by have := (HI.out.1 (by omega)); rcases e with e | e; exact this.1 e; exact this.2 e), if_neg (fun e => by have := (HI.out.2.1 (by omega)); rcases e with e | e; exact this.1 e; exact this.2 e), if_pos hor])
          have b2 : (e2 == 9) = true := by simpa using a2
          clear hor a1 a2
          go_wp2
          go_ret3
          refine ⟨?_, HK3.out⟩
          rw [HE.out]; rfl
        · have b2 : (e2 == 9) = false := by simpa using a2
          have HN : Hid ((1 ≤ 3 → e1 ≠ 10 ∧ e2 ≠ 10) ∧ (2 ≤ 3 → e1 ≠ 12 ∧ e2 ≠ 12) ∧ (3 ≤ 3 → e1 ≠ 9 ∧ e2 ≠ 9)) := Lib.hid ⟨fun _ => HI.out.1 (by omega), fun _ => HI.out.2.1 (by omega), fun _ => ⟨a1, a2⟩⟩
          clear a1 a2
          go_wp2
          go_roundw
          case rel => exact ⟨3, rfl, rfl, by go_num, by omega, trivial, HN⟩
          case measure => simp [intOf]
    · have n1 := HI.out.1 (by omega)
      have n2 := HI.out.2.1 (by omega)
      have n3 := HI.out.2.2 (by omega)
      have hv := HV.out
      have h1 : e1 = 0 := by omega
      have h2 : e2 = 0 := by omega
      have HE : Hid (placesE e1 e2 = 0) := Lib.hid (by rw [h1, h2]; rfl)
      have H1 := Lib.hid h1; have H2 := Lib.hid h2
      clear n1 n2 n3 hv h1 h2
      go_wp2
      go_ret3
      refine ⟨?_, HK3.out⟩
      rw [HE.out, HX.out, HY.out, H1.out, H2.out]; rfl
end Go.Proofs.Ytpkdfkndmgijjaa
