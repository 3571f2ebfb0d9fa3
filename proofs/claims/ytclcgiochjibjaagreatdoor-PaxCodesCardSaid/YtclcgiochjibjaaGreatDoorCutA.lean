/-
  strings.Cut at one byte; TrimSuffix; Clone; CutPrefix; Contains.
-/
import Derived.Test.YtclcgiochjibjaaGreatDoorPaxP
import Derived.Test.YtclcgiochjibjaaGreatDoorDigA
import Derived.Shelf.RegionOpen
namespace Go.Proofs.YtclcgiochjibjaaGreatDoor
open Go.RowKit
set_option linter.unusedVariables false
set_option linter.unusedSimpArgs false

def strB (l : List UInt8) : ByteArray := ⟨l.toArray⟩
theorem strB_of (s : ByteArray) : strB s.data.toList = s := by cases s; rfl
theorem strB_size (l : List UInt8) : (strB l).size = l.length := by simp [strB, ByteArray.size]
theorem strB_data (l : List UInt8) : (strB l).data.toList = l := rfl
theorem strB_list (l : List UInt8) : (strB l).toList = l := by rw [Lib.toList_data]; rfl
theorem strB_extract (l : List UInt8) (a b : Nat) : (strB l).extract a b = strB ((l.drop a).take (b - a)) := by
  apply ByteArray.ext
  apply Array.ext'
  rw [← Lib.toList_data, Lib.extract_toList]
  rfl
theorem strB_app (a b : List UInt8) : strB a ++ strB b = strB (a ++ b) := ByteArray.mk_append_mk a b

theorem cutP_index (c : UInt8) : ∀ l : List UInt8, (Lib.indexByte l c = -1 ∧ cutP c l = (l, [], false)) ∨ ∃ k : Nat, Lib.indexByte l c = (k : Int) ∧ k < l.length ∧ cutP c l = (l.take k, l.drop (k + 1), true)
  | [] => .inl ⟨rfl, rfl⟩
  | b :: l => by
    by_cases hb : b = c
    · refine .inr ⟨0, ?_, by simp, ?_⟩
      · rw [Lib.indexByte, if_pos (by simpa using hb)]; rfl
      · rw [cutP, if_pos hb]; simp
    · rcases cutP_index c l with ⟨h1, h2⟩ | ⟨k, h1, h2, h3⟩
      · refine .inl ⟨?_, ?_⟩
        · rw [Lib.indexByte, if_neg (by simpa using hb), h1]; rfl
        · rw [cutP, if_neg hb, h2]
      · refine .inr ⟨k + 1, ?_, by simpa using h2, ?_⟩
        · rw [Lib.indexByte, if_neg (by simpa using hb), h1, if_neg (by simp)]
          first | rfl | omega
        · rw [cutP, if_neg hb, h3]; rfl

set_option maxRecDepth 20000 in
set_option maxHeartbeats 2000000 in
theorem slCut_any (s : ByteArray) (c : UInt8) (w : World) (hs : s.size ≤ 1000000000) :
    Calls Tryz.prog 34 #[.string s, .string ⟨#[c]⟩] w fun e w' =>
      e = .returned (.tuple #[.string (strB (cutP c s.data.toList).1), .string (strB (cutP c s.data.toList).2.1), .bool (cutP c s.data.toList).2.2]) ∧ Kept NoB w w' := by
  have HI := Lib.hid (fun W => Tryz.stringslite_Index_one s c W)
  have hdl : s.data.toList.length = s.size := by rw [Array.length_toList]; rfl
  have hsz : (⟨#[c]⟩ : ByteArray).size = 1 := rfl
  obtain ⟨C, hC⟩ : ∃ C, C = (⟨#[c]⟩ : ByteArray) := ⟨_, rfl⟩
  rw [← hC] at HI hsz ⊢
  clear hC
  rcases cutP_index c s.data.toList with ⟨h1, h2⟩ | ⟨k, h1, h2, h3⟩
  · rw [h1] at HI
    rw [h2]
    have HE := Lib.hid (strB_of s)
    clear h1 h2 hdl
    go_enter Tryz.func34, Tryz.ntmps34
    go_wp2_with fail
    refine (HI.out _).mono ?_
    rintro e w1 ⟨rfl, rfl⟩
    go_wp2
    go_ret3
    exact ⟨by rw [HE.out]; rfl, Kept.refl _ _⟩
  · rw [h1] at HI
    rw [h3]
    rw [hdl] at h2
    have c1 : (0 : Int) ≤ ↑k := by omega
    have c2 : (↑k : Int) ≤ ↑s.size := by omega
    have mixed : Tryz.prog.follows Departure.mixedOrders = true := by kernel_rfl
    obtain ⟨k1, hk1⟩ : ∃ k1, k1 = k + 1 := ⟨_, rfl⟩
    have c3 : (k1 : Int) ≤ ↑s.size := by omega
    have c5 : IntKind.i64.wrap ((k : Int) + 1) = (k1 : Int) := by rw [IntWalk.i64_in _ (by omega)]; omega
    have HE1 : Hid (s.extract 0 k = strB (s.data.toList.take k)) := Lib.hid (by
      conv => lhs; rw [← strB_of s]
      rw [strB_extract]; simp)
    have HE2 : Hid (s.extract k1 s.size = strB (s.data.toList.drop (k + 1))) := Lib.hid (by
      conv => lhs; rw [← strB_of s]
      rw [strB_extract, List.take_of_length_le (by rw [List.length_drop, strB_size]; exact Nat.le_refl _), hk1])
    clear hk1 h1 h3 hdl
    go_enter Tryz.func34, Tryz.ntmps34
    go_wp2_with fail
    refine (HI.out _).mono ?_
    rintro e w1 ⟨rfl, rfl⟩
    go_wp2
    go_region_o
    go_wp2
    go_ret3
    exact ⟨by rw [← HE1.out, ← HE2.out]; rfl, (Kept.refl _ _).drewN 1⟩
set_option maxHeartbeats 1000000 in
theorem cut_any (s : ByteArray) (c : UInt8) (w : World) (hs : s.size ≤ 1000000000) :
    Calls Tryz.prog 18 #[.string s, .string ⟨#[c]⟩] w fun e w' =>
      e = .returned (.tuple #[.string (strB (cutP c s.data.toList).1), .string (strB (cutP c s.data.toList).2.1), .bool (cutP c s.data.toList).2.2]) ∧ Kept NoB w w' := by
  have HI := Lib.hid (slCut_any s c w hs)
  generalize strB (cutP c s.data.toList).1 = A1 at HI ⊢
  generalize strB (cutP c s.data.toList).2.1 = A2 at HI ⊢
  generalize (cutP c s.data.toList).2.2 = A3 at HI ⊢
  go_enter Tryz.func18, Tryz.ntmps18
  go_wp2_with fail
  refine HI.out.mono ?_
  rintro e w1 ⟨rfl, hk⟩
  go_wp2
  go_ret3
  exact ⟨rfl, hk⟩
set_option maxHeartbeats 1000000 in
theorem clone_str (s : ByteArray) (w : World) (hs : s.size ≤ 1000000000) :
    Calls Tryz.prog 20 #[.string s] w fun e w' => e = .returned (.string s) ∧ Kept NoB w w' := by
  have HI := Lib.hid (Tryz.stringslite_Clone s w (by omega))
  go_enter Tryz.func20, Tryz.ntmps20
  go_wp2_with fail
  refine HI.out.mono ?_
  rintro e w1 ⟨rfl, hb⟩
  go_wp2
  go_ret
  exact ⟨rfl, (Kept.refl NoB w).ofBelow hb⟩
end Go.Proofs.YtclcgiochjibjaaGreatDoor
