/-
  pax.Get.
-/
import Derived.Test.YtclcgiochjibjaaDoorPaxD
namespace Go.Proofs.YtclcgiochjibjaaDoor
open Go.RowKit
set_option linter.unusedVariables false
set_option linter.unusedSimpArgs false

/-- The last value of a key. -/
def getS (rs : List KVb) (k : List UInt8) : List UInt8 := rs.foldl (fun v r => if r.1 = k then r.2 else v) []
theorem getS_take (rs : List KVb) (k : List UInt8) (i : Nat) (h : i < rs.length) : getS (rs.take (i + 1)) k = if (rs.getD i ([], [])).1 = k then (rs.getD i ([], [])).2 else getS (rs.take i) k := by
  rw [getS, List.take_succ_eq_append_getElem h, List.foldl_append]
  simp [List.getD, h, getS]

set_option maxRecDepth 20000 in
set_option maxHeartbeats 4000000 in
theorem get_any (ao : Option Addr) (n cap : Nat) (rs : List KVb) (k : List UInt8) (w : World) (hn : n = rs.length) (hr : RdK w w.heap.size ao rs) (hc : n ≤ cap) (hcm : cap ≤ maxLen) :
    Calls Tryd.prog 15 #[.slice ao n cap, .string (strB k)] w fun e w' => e = .returned (.tuple #[.string (strB (getS rs k)), .bool (!(getS rs k).isEmpty)]) ∧ Kept NoB w w' := by
  have HR := Lib.hid hr; have HN := Lib.hid hn
  have HTk := Lib.hid (fun i (hi : i < n) => getS_take rs k i (by omega))
  have HEq := Lib.hid (fun a => strB_eq a k)
  have hcm2 : n ≤ 9223372036854775807 := by unfold maxLen at hcm; omega
  obtain ⟨K, hK⟩ : ∃ K, K = strB k := ⟨_, rfl⟩
  rw [← hK] at HEq ⊢
  have HG0 : Hid (getS (rs.take 0) k = []) := Lib.hid (by rw [List.take_zero]; rfl)
  clear hr hn hcm hc hK
  go_enter Tryd.func15, Tryd.ntmps15
  go_wp2
  go_loopw [6, 8, 11] (fun v6 v8 v11 wr => ∃ (i : Nat) (V : ByteArray), v6 = .string V ∧ v11 = .int .i64 (i : Int) ∧ i ≤ n ∧ Hid (V = strB (getS (rs.take i) k) ∧ Kept NoB w wr)) (fun _ _ v11 _ => n - (intOf v11).toNat)
  case atStart => exact ⟨0, ⟨#[]⟩, rfl, rfl, by omega, Lib.hid ⟨by rw [HG0.out]; rfl, Kept.refl _ _⟩⟩
  case round =>
    obtain ⟨i, V, rfl, rfl, hi, HS⟩ := hrel
    by_cases hlt : (i : Int) < (n : Int)
    · have hin : i < n := by omega
      obtain ⟨b, off, rfl, hb, c0, c1⟩ := HR.out i (by have := HN.out; omega)
      have d0 := HS.out.2.cell c0
      have d1 := HS.out.2.cell c1
      have e1 := HTk.out i hin
      obtain ⟨r, hr⟩ : ∃ r, r = rs.getD i ([], []) := ⟨_, rfl⟩
      rw [← hr] at d0 d1 e1
      rw [show off + (i * 2 + 1) = off + i * 2 + 1 by omega] at d1
      have hq := HEq.out r.1
      have HK1 := Lib.hid (HS.out.2.alloc (.cells #[.string (strB r.1), .string (strB r.2)] 29))
      have E1 := Lib.hid e1
      clear c0 c1 hr e1
      obtain ⟨A, hA⟩ : ∃ A, A = strB r.1 := ⟨_, rfl⟩
      obtain ⟨B, hB⟩ : ∃ B, B = strB r.2 := ⟨_, rfl⟩
      rw [← hA] at d0 hq HK1
      rw [← hB] at d1 HK1
      have HB := Lib.hid hB
      clear hA hB
      by_cases heq : r.1 = k
      · rw [decide_eq_true heq] at hq
        have HE : Hid (B = strB (getS (rs.take (i + 1)) k)) := Lib.hid (by rw [E1.out, if_pos heq]; exact HB.out)
        clear heq
        go_wp2
        go_roundw
        case rel => exact ⟨i + 1, B, rfl, by go_num, by omega, Lib.hid ⟨HE.out, HK1.out⟩⟩
        case measure => simp [intOf]; omega
      · rw [decide_eq_false heq] at hq
        have HE : Hid (V = strB (getS (rs.take (i + 1)) k)) := Lib.hid (by rw [E1.out, if_neg heq]; exact HS.out.1)
        clear heq
        go_wp2
        go_roundw
        case rel => exact ⟨i + 1, V, rfl, by go_num, by omega, Lib.hid ⟨HE.out, HK1.out⟩⟩
        case measure => simp [intOf]; omega
    · have hie : i = n := by omega
      subst hie
      have HV : Hid (V = strB (getS rs k)) := Lib.hid (by
        have := HS.out.1
        rwa [HN.out, List.take_length] at this)
      have hvl : V.toList = getS rs k := by rw [HV.out, strB_list]
      cases hg : getS rs k with
      | nil =>
        rw [hg] at hvl
        have hvl2 : V.toList.isEmpty = true := by rw [hvl]; rfl
        have HV2 : Hid (V = strB []) := Lib.hid (by rw [HV.out, hg])
        have HG := Lib.hid hg
        clear hg HV
        go_wp2
        go_ret2
        exact ⟨by rw [HV2.out, HG.out]; rfl, HS.out.2⟩
      | cons x t =>
        rw [hg] at hvl
        have hvl2 : V.toList.isEmpty = false := by rw [hvl]; rfl
        have hvl3 : ¬ V.toList = [] := by rw [hvl]; simp
        have HV2 : Hid (V = strB (x :: t)) := Lib.hid (by rw [HV.out, hg])
        have HG := Lib.hid hg
        clear hg HV hvl
        go_wp2
        go_ret2
        exact ⟨by rw [HV2.out, HG.out]; rfl, HS.out.2⟩
end Go.Proofs.YtclcgiochjibjaaDoor
