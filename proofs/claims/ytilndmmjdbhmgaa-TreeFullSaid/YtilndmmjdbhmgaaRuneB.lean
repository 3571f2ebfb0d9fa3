/-
  strings.IndexAny and ContainsAny at "/\x00" and any bytes; name.Ok.
-/
import Derived.Test.YtilndmmjdbhmgaaRuneA
namespace Go.Proofs.Ytilndmmjdbhmgaa
open Go.RowKit
set_option linter.unusedVariables false
set_option linter.unusedSimpArgs false

theorem data47 : s47.data.toList = [47, 0] := rfl
theorem byte_at (s : ByteArray) (i : Nat) (h : i < s.size) : s.data.toList[i]? = some (s[i]'h) := Lib.data_getElem? s i h
theorem get_byte (s : ByteArray) (i : Nat) (h : i < s.size) : s.get! i = s[i]'h := by simpa using get_at s i h
theorem high_no (x : UInt8) (h : 128 ≤ x.toNat) : ([47, 0] : List UInt8).contains x = false := by
  have e1 : x ≠ 47 := by rintro rfl; exact absurd h (by decide)
  have e2 : x ≠ 0 := by rintro rfl; exact absurd h (by decide)
  simp [e1, e2]
theorem noAny_span (s : ByteArray) (pos : Nat) (h : pos < s.size) (ha : 128 ≤ (s[pos]'h).toNat) (hno : Lib.NoAny s.data.toList [47, 0] pos) : Lib.NoAny s.data.toList [47, 0] (pos + (Utf8.decode s pos).2) := by
  obtain ⟨h1, h2⟩ := decode_span s pos h ha
  intro j b hj hb
  by_cases hjp : j < pos
  · exact hno j b hjp hb
  · have hjs : j < s.size := by omega
    rw [byte_at s j hjs] at hb
    cases hb
    have := h2 (j - pos) (by omega)
    rw [show pos + (j - pos) = j by omega, get_byte s j hjs] at this
    exact high_no _ this

set_option maxRecDepth 20000 in
set_option maxHeartbeats 4000000 in
theorem indexAny_short (s : ByteArray) (w : World) (h8 : s.size ≤ 8) :
    Calls Try.prog 95 #[.string s, .string s47] w fun e w' => e = .returned (.int .i64 (Lib.indexAny s.data.toList [47, 0])) ∧ Below w.heap.size w w' := by
  have hsz : s47.size = 2 := rfl
  have hemp : s47.toList.isEmpty = false := by rw [Lib.toList_data, data47]; rfl
  have h8z : decide ((8 : Int) < (s.size : Int)) = false := decide_eq_false (by omega)
  go_enter Try.func95, Try.ntmps95
  go_wp2_with fail
  refine (Try.strings_shouldUseASCIISet _ _).mono ?_
  rintro e w' ⟨rfl, hw⟩
  rw [hw, h8z]
  clear hw
  go_wp2
  go_loopw [9, 10] (fun _ _ wr => ∃ pos : Nat, pos ≤ s.size ∧ Hid (wr.heap[w.heap.size]? = some (.stringIter s pos)) ∧ Hid (Below w.heap.size w wr) ∧ Hid (Lib.NoAny s.data.toList [47, 0] pos)) (fun _ _ wr => s.size - wr.iterPos w.heap.size)
  case atStart => exact ⟨0, by omega, Lib.hid (World.iter_heap w s 0), Lib.hid ((Below.refl _ w).alloc (Nat.le_refl _) _), Lib.hid (Lib.NoAny.zero _ _)⟩
  case round =>
    obtain ⟨pos, hp, HI, HB, HN⟩ := hrel
    have hlt := (Array.getElem?_eq_some_iff.1 HI.out).1
    by_cases hp2 : pos < s.size
    · have hnx := fun ty => Lib.run_next_any_at (P := Try.prog) wr w.heap.size s pos ty HI.out hp2
      have hle := decode_le s pos
      by_cases ha : (s[pos]'hp2).toNat < 128
      · have hd := decode_ascii s pos hp2 ha
        rw [hd] at hnx
        have HX := Lib.hid (byte_at s pos hp2)
        obtain ⟨x, hx⟩ : ∃ x, x = s[pos]'hp2 := ⟨_, rfl⟩
        rw [← hx] at hnx ha HX
        have hcon := Lib.contains_iff_indexByte [47, 0] x
        have HRu := Lib.hid (fun W => Try.strings_IndexRune_ascii s47 (x.toNat : Int) W (by omega) (by omega))
        have hback : ((x.toNat : Int)).toNat.toUInt8 = x := by simp
        rw [hback, data47] at HRu
        have HI2 := Lib.hid (Lib.iterAt_heap wr w.heap.size s pos (pos + 1) HI.out)
        have HB2 := Lib.hid (Lib.below_iterAt HB.out (Nat.le_refl _) s (pos + 1))
        have HIP : Hid (wr.iterPos w.heap.size = pos) := Lib.hid (by unfold World.iterPos; rw [HI.out])
        have HIP2 : Hid ((wr.iterAt w.heap.size s (pos + 1)).iterPos w.heap.size = pos + 1) := Lib.hid (by unfold World.iterPos; rw [HI2.out])
        clear hd hx hle
        cases hin : ([47, 0] : List UInt8).contains x with
        | false =>
          rw [hin] at hcon
          have hl0 : ¬ (0 : Int) ≤ Lib.indexByte [47, 0] x := of_decide_eq_false hcon.symm
          have HN2 := Lib.hid (HN.out.succ HX.out hin)
          clear hcon hin
          go_wp2_with fail
          refine (HRu.out _).mono ?_
          rintro e w2 ⟨rfl, hw2⟩
          rw [hw2]
          clear hw2
          go_wp2
          go_roundw
          case rel => exact ⟨pos + 1, by omega, HI2, HB2, HN2⟩
          case measure => rw [HIP.out, HIP2.out]; omega
        | true =>
          rw [hin] at hcon
          have hl0 : (0 : Int) ≤ Lib.indexByte [47, 0] x := of_decide_eq_true hcon.symm
          have HH := Lib.hid (Lib.indexAny_hit HN.out HX.out hin)
          clear hcon hin
          go_wp2_with fail
          refine (HRu.out _).mono ?_
          rintro e w2 ⟨rfl, hw2⟩
          rw [hw2]
          clear hw2
          go_wp2
          go_ret
          exact ⟨by rw [HH.out]; rfl, HB2.out⟩
      · have hsp := decode_span s pos hp2 (by omega)
        have hhi := decode_high s pos hp2 (by omega)
        have HN2 := Lib.hid (noAny_span s pos hp2 (by omega) HN.out)
        obtain ⟨r, hr⟩ : ∃ r, r = (Utf8.decode s pos).1 := ⟨_, rfl⟩
        obtain ⟨d, hd⟩ : ∃ d, d = (Utf8.decode s pos).2 := ⟨_, rfl⟩
        rw [← hr] at hnx hle hhi
        rw [← hd] at hnx hsp hhi HN2
        have HI2 := Lib.hid (Lib.iterAt_heap wr w.heap.size s pos (pos + d) HI.out)
        have HB2 := Lib.hid (Lib.below_iterAt HB.out (Nat.le_refl _) s (pos + d))
        have HIP : Hid (wr.iterPos w.heap.size = pos) := Lib.hid (by unfold World.iterPos; rw [HI.out])
        have HRu := Lib.hid (fun W => indexRune_high (r : Int) W (by omega) (by omega))
        have hsl : (wr.iterAt w.heap.size s (pos + d)).heap.size = wr.heap.size := Lib.iterAt_size ..
        have HSl := Lib.hid hsl
        have hpd : pos + d ≤ s.size := hsp.1
        have hd1 : 1 ≤ d := hhi.2
        clear hr hd hsp hhi ha hsl hle
        go_wp2_with fail
        refine (HRu.out _).mono ?_
        rintro e w2 ⟨rfl, hb2⟩
        have HI3 : Hid (w2.heap[w.heap.size]? = some (.stringIter s (pos + d))) := Lib.hid ((hb2.block _ (by rw [HSl.out]; exact hlt)).trans HI2.out)
        have HB3 := Lib.hid (HB2.out.trans (hb2.mono (by rw [HSl.out]; omega)))
        have HIP3 : Hid (w2.iterPos w.heap.size = pos + d) := Lib.hid (by unfold World.iterPos; rw [HI3.out])
        clear hb2
        go_wp2
        go_roundw
        case rel => exact ⟨pos + d, by omega, HI3, HB3, HN2⟩
        case measure => rw [HIP.out, HIP3.out]; omega
    · have hps : pos = s.size := by omega
      subst hps
      have hnx := fun ty => Lib.run_next_end_at (P := Try.prog) wr w.heap.size s s.size ty HI.out hp2
      have HF := Lib.hid (Lib.indexAny_none (s := s.data.toList) (chars := [47, 0]) (by rw [← Lib.size_eq]; exact HN.out))
      clear hp2
      go_wp2
      go_ret
      exact ⟨by rw [HF.out]; rfl, HB.out⟩
end Go.Proofs.Ytilndmmjdbhmgaa
