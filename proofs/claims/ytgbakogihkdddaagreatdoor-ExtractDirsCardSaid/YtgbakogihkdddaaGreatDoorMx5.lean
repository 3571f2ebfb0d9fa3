/-
  strings.ContainsAny at "/\x00" and any bytes: what a rune that is no single byte has to do with it.
  strings.IndexAny and ContainsAny at "/\x00" and any bytes; name.Ok.
  strings.ContainsAny at "/\x00"; name.Ok.
  A tree of files in memory: Stat; a directory and a part; Find.
  append onto an own row from whatever source, of another slice type too; elements of any number of cells.
-/
import Derived.Test.YtgbakogihkdddaaGreatDoorMx4
import Derived.Lib.OthersKept
import Derived.Lib.IndexLaws
import Derived.Laws.RangeAny
import Derived.Laws.Runes
import Derived.WalkMore
import Derived.Deep.AppendSrc
import Derived.Lib.AppendZerosOnto
import Derived.Lib.AppendZeros
namespace Go.Proofs.YtgbakogihkdddaaGreatDoor
open Go.RowKit
set_option linter.unusedVariables false
set_option linter.unusedSimpArgs false

def s47 : ByteArray := ⟨#[47, 0]⟩
theorem decode_span (s : ByteArray) (pos : Nat) (h : pos < s.size) (ha : 128 ≤ (s[pos]'h).toNat) : pos + (Utf8.decode s pos).2 ≤ s.size ∧ ∀ k, k < (Utf8.decode s pos).2 → 128 ≤ (s.get! (pos + k)).toNat := by
  have h0 : 128 ≤ (s.get! (pos + 0)).toNat := by rw [get_at s pos h]; exact ha
  have hn : ¬ (s.get! (pos + 0)).toNat < 128 := by omega
  have one : ∀ k, k < 1 → 128 ≤ (s.get! (pos + k)).toNat := fun k hk => by
    have : k = 0 := by omega
    subst this; exact h0
  simp only [Utf8.decode, hn, if_false]
  split
  · rename_i c
    simp at c
    split
    · refine ⟨by omega, fun k hk => ?_⟩
      rcases (show k = 0 ∨ k = 1 by omega) with rfl | rfl
      · exact h0
      · omega
    · exact ⟨by show pos + 1 ≤ _; omega, one⟩
  · split
    · rename_i c
      simp at c
      split
      · refine ⟨by omega, fun k hk => ?_⟩
        rcases (show k = 0 ∨ k = 1 ∨ k = 2 by omega) with rfl | rfl | rfl
        · exact h0
        · omega
        · omega
      · exact ⟨by show pos + 1 ≤ _; omega, one⟩
    · split
      · rename_i c
        simp at c
        split
        · refine ⟨by omega, fun k hk => ?_⟩
          rcases (show k = 0 ∨ k = 1 ∨ k = 2 ∨ k = 3 by omega) with rfl | rfl | rfl | rfl
          · exact h0
          · omega
          · omega
          · omega
        · exact ⟨by show pos + 1 ≤ _; omega, one⟩
      · exact ⟨by show pos + 1 ≤ _; omega, one⟩

set_option maxRecDepth 20000 in
set_option maxHeartbeats 4000000 in
theorem indexRune_high (r : Int) (w : World) (h0 : 128 ≤ r) (h1 : r ≤ 2147483647) :
    Calls Tryz.prog 114 #[.string s47, .int .i32 r] w fun e w' => e = .returned (.int .i64 (-1)) ∧ Below w.heap.size w w' := by
  have q0 : ¬ r < 128 := by omega
  have q1 : (0 : Int) ≤ r := by omega
  have hsz : s47.size = 2 := rfl
  by_cases he : r = 65533
  · subst he
    go_enter Tryz.func114, Tryz.ntmps114
    go_wp2
    go_loopw [5, 6] (fun _ _ wr => ∃ pos : Nat, pos ≤ 2 ∧ Hid (wr.heap[w.heap.size]? = some (.stringIter s47 pos)) ∧ Hid (Below w.heap.size w wr)) (fun _ _ wr => 2 - wr.iterPos w.heap.size)
    case atStart => exact ⟨0, by omega, Lib.hid (World.iter_heap w s47 0), Lib.hid ((Below.refl _ w).alloc (Nat.le_refl _) _)⟩
    case round =>
      obtain ⟨pos, hp, HI, HB⟩ := hrel
      by_cases hp2 : pos < 2
      · have hx : (s47[pos]'(by rw [hsz]; exact hp2)).toNat < 128 ∧ ((s47[pos]'(by rw [hsz]; exact hp2)).toNat : Int) ≠ 65533 := by
          rcases (show pos = 0 ∨ pos = 1 by omega) with rfl | rfl
          · exact ⟨by show (47 : UInt8).toNat < 128; decide, by show (((47 : UInt8).toNat : Nat) : Int) ≠ 65533; decide⟩
          · exact ⟨by show (0 : UInt8).toNat < 128; decide, by show (((0 : UInt8).toNat : Nat) : Int) ≠ 65533; decide⟩
        have hnx := fun ty => Lib.run_next_ascii_at (P := Tryz.prog) wr w.heap.size s47 pos ty HI.out (by rw [hsz]; exact hp2) hx.1
        obtain ⟨x, hxe⟩ : ∃ x : Nat, x = (s47[pos]'(by rw [hsz]; exact hp2)).toNat := ⟨_, rfl⟩
        rw [← hxe] at hx hnx
        have q3 : ((x : Int) == 65533) = false := by simpa using hx.2
        have HI2 := Lib.hid (Lib.iterAt_heap wr w.heap.size s47 pos (pos + 1) HI.out)
        have HB2 := Lib.hid (Lib.below_iterAt HB.out (Nat.le_refl _) s47 (pos + 1))
        have HIP : Hid (wr.iterPos w.heap.size = pos) := Lib.hid (by unfold World.iterPos; rw [HI.out])
        have HIP2 : Hid ((wr.iterAt w.heap.size s47 (pos + 1)).iterPos w.heap.size = pos + 1) := Lib.hid (by unfold World.iterPos; rw [HI2.out])
        clear hxe hx
        go_wp2
        go_roundw
        case rel => exact ⟨pos + 1, by omega, HI2, HB2⟩
        case measure => rw [HIP.out, HIP2.out]; omega
      · have hnx := fun ty => Lib.run_next_end_at (P := Tryz.prog) wr w.heap.size s47 pos ty HI.out (by rw [hsz]; omega)
        go_wp2
        go_ret
        exact ⟨rfl, HB.out⟩
  · have q2 : (r == 65533) = false := by simpa using he
    cases hv : Lib.validRune r with
    | false =>
      go_enter Tryz.func114, Tryz.ntmps114
      go_wp2_with fail
      refine (Tryz.utf8_ValidRune _ _).mono ?_
      rintro e w1 ⟨rfl, rfl⟩
      rw [hv]
      go_wp2
      go_ret
      exact ⟨rfl, Below.refl _ _⟩
    | true =>
      have hvv : Utf8.valid r = true := by rw [validRune_eq]; exact hv
      obtain ⟨e2, e4, e8⟩ := encode_facts r hvv h0
      obtain ⟨E, hE⟩ : ∃ E, E = Utf8.encode r := ⟨_, rfl⟩
      rw [← hE] at e2 e4 e8
      have hcv : ∀ W, (convert 21 9 (.int .i32 r)).run Tryz.prog W = .ok (.string E) W := fun W => by
        rw [hE]; exact run_convert_int_string W _ _ .i32 r rfl rfl
      clear hE
      go_enter Tryz.func114, Tryz.ntmps114
      go_wp2_with fail
      refine (Tryz.utf8_ValidRune _ _).mono ?_
      rintro e w1 ⟨rfl, hw⟩
      rw [hw, hv]
      clear hw
      obtain ⟨M, hM⟩ : ∃ M : Nat, E.size = M + 1 := ⟨E.size - 1, by omega⟩
      have hw1 : IntKind.i64.wrap ((E.size : Int) - 1) = (M : Int) := by rw [IntWalk.i64_in _ (by omega)]; omega
      have hMl : M < E.size := by omega
      have hEM : 128 ≤ (E[M]'hMl).toNat := by
        have h := e8 (by omega)
        have e : E.size - 1 = M := by omega
        simpa [e] using h
      clear e8
      go_wp2
      go_step3
      go_wp2
      go_loopw [9, 10, 11, 12] (fun v9 _ _ _ wr => v9 = .int .i64 (M : Int) ∧ Hid (w = wr)) (fun _ _ _ _ _ => 0)
      case atStart => exact ⟨by go_num, Lib.hid rfl⟩
      case round =>
        obtain ⟨rfl, HW⟩ := hrel
        by_cases hM2 : M < 2
        · have hM1 : M = 1 := by omega
          subst hM1
          have hs1 : (s47[1]'(by rw [hsz]; decide)).toNat = 0 := rfl
          obtain ⟨x1, hx1⟩ : ∃ x1, x1 = (s47[1]'(by rw [hsz]; decide)).toNat := ⟨_, rfl⟩
          obtain ⟨y1, hy1⟩ : ∃ y1, y1 = (E[1]'hMl).toNat := ⟨_, rfl⟩
          have q5 : (((s47[1]'(by rw [hsz]; decide)).toNat : Int) != ((E[1]'hMl).toNat : Int)) = true := by rw [hs1]; simp; omega
          have HIb := Lib.hid (fun W => Tryz.strings_IndexByte ByteArray.empty ((E[1]'hMl).toNat : Int) W)
          rw [show Lib.indexByte ByteArray.empty.data.toList (((E[1]'hMl).toNat : Int)).toNat.toUInt8 = -1 from rfl] at HIb
          clear hx1 hy1 hs1
          have hw2 : IntKind.i64.wrap 2 = 2 := by decide
          have hw3 : IntKind.i64.wrap ((1 : Nat) : Int) = 1 := by decide
          go_wp2
          go_step3
          go_upto_region 6 with fail
          go_quiet (fail)
          obtain ⟨wq, hwq⟩ : ∃ wq, wq = wr.drewN nq := ⟨_, rfl⟩
          have HQ : Hid (Below w.heap.size w wq) := Lib.hid (by rw [hwq, ← HW.out]; exact ((Kept.refl NoB w).drewN nq).belowNo (Below.refl _ _))
          rw [← hwq]
          clear hwq
          go_wp2
          go_quiet ((go_at_call 139; exact Calls.quiet_of_same ((HIb.out _).mono fun _ _ h => ⟨h.1, h.2⟩)))
          have HQ2 := Lib.hid (((Kept.refl NoB wq).drewN nq).belowNo HQ.out)
          go_wp2
          rw [Exit.noGoto_ret]
          go_wp2
          rw [Exit.noGoto_ret]
          go_ret
          exact ⟨rfl, HQ2.out⟩
        · go_wp2
          rw [Exit.noGoto_ret]
          go_ret
          exact ⟨rfl, by rw [← HW.out]; exact Below.refl _ _⟩
end Go.Proofs.YtgbakogihkdddaaGreatDoor

namespace Go.Proofs.YtgbakogihkdddaaGreatDoor
open Go.RowKit
set_option linter.unusedVariables false
set_option linter.unusedSimpArgs false

theorem data47 : s47.data.toList = [47, 0] := rfl
theorem byte_at (s : ByteArray) (i : Nat) (h : i < s.size) : s.data.toList[i]? = some (s[i]'h) := Lib.data_getElem? s i h
theorem get_byte (s : ByteArray) (i : Nat) (h : i < s.size) : s.get! i = s[i]'h := by simpa using get_at s i h
theorem high_no (x : UInt8) (h : 128 ≤ x.toNat) : ([47, 0] : List UInt8).contains x = false := by
  have e1 : x ≠ 47 := by rintro rfl; exact absurd h (by decide)
  have e2 : x ≠ 0 := by rintro rfl; exact absurd h (by decide)
  simp [e1, e2]
theorem noAny_span (s : ByteArray) (pos : Nat) (h : pos < s.size) (ha : 128 ≤ (s[pos]'h).toNat) (hno : Lib.NoAny s.data.toList [47, 0] pos) : Lib.NoAny s.data.toList [47, 0] (pos + (Utf8.decode s pos).2) := by
  obtain ⟨h1, h2⟩ := decode_span s pos h ha
  intro j b hj hb
  by_cases hjp : j < pos
  · exact hno j b hjp hb
  · have hjs : j < s.size := by omega
    rw [byte_at s j hjs] at hb
    cases hb
    have := h2 (j - pos) (by omega)
    rw [show pos + (j - pos) = j by omega, get_byte s j hjs] at this
    exact high_no _ this

set_option maxRecDepth 20000 in
set_option maxHeartbeats 4000000 in
theorem indexAny_short (s : ByteArray) (w : World) (h8 : s.size ≤ 8) :
    Calls Tryz.prog 92 #[.string s, .string s47] w fun e w' => e = .returned (.int .i64 (Lib.indexAny s.data.toList [47, 0])) ∧ Below w.heap.size w w' := by
  have hsz : s47.size = 2 := rfl
  have hemp : s47.toList.isEmpty = false := by rw [Lib.toList_data, data47]; rfl
  have h8z : decide ((8 : Int) < (s.size : Int)) = false := decide_eq_false (by omega)
  go_enter Tryz.func92, Tryz.ntmps92
  go_wp2_with fail
  refine (Tryz.strings_shouldUseASCIISet _ _).mono ?_
  rintro e w' ⟨rfl, hw⟩
  rw [hw, h8z]
  clear hw
  go_wp2
  go_loopw [9, 10] (fun _ _ wr => ∃ pos : Nat, pos ≤ s.size ∧ Hid (wr.heap[w.heap.size]? = some (.stringIter s pos)) ∧ Hid (Below w.heap.size w wr) ∧ Hid (Lib.NoAny s.data.toList [47, 0] pos)) (fun _ _ wr => s.size - wr.iterPos w.heap.size)
  case atStart => exact ⟨0, by omega, Lib.hid (World.iter_heap w s 0), Lib.hid ((Below.refl _ w).alloc (Nat.le_refl _) _), Lib.hid (Lib.NoAny.zero _ _)⟩
  case round =>
    obtain ⟨pos, hp, HI, HB, HN⟩ := hrel
    have hlt := (Array.getElem?_eq_some_iff.1 HI.out).1
    by_cases hp2 : pos < s.size
    · have hnx := fun ty => Lib.run_next_any_at (P := Tryz.prog) wr w.heap.size s pos ty HI.out hp2
      have hle := decode_le s pos
      by_cases ha : (s[pos]'hp2).toNat < 128
      · have hd := decode_ascii s pos hp2 ha
        rw [hd] at hnx
        have HX := Lib.hid (byte_at s pos hp2)
        obtain ⟨x, hx⟩ : ∃ x, x = s[pos]'hp2 := ⟨_, rfl⟩
        rw [← hx] at hnx ha HX
        have hcon := Lib.contains_iff_indexByte [47, 0] x
        have HRu := Lib.hid (fun W => Tryz.strings_IndexRune_ascii s47 (x.toNat : Int) W (by omega) (by omega))
        have hback : ((x.toNat : Int)).toNat.toUInt8 = x := by simp
        rw [hback, data47] at HRu
        have HI2 := Lib.hid (Lib.iterAt_heap wr w.heap.size s pos (pos + 1) HI.out)
        have HB2 := Lib.hid (Lib.below_iterAt HB.out (Nat.le_refl _) s (pos + 1))
        have HIP : Hid (wr.iterPos w.heap.size = pos) := Lib.hid (by unfold World.iterPos; rw [HI.out])
        have HIP2 : Hid ((wr.iterAt w.heap.size s (pos + 1)).iterPos w.heap.size = pos + 1) := Lib.hid (by unfold World.iterPos; rw [HI2.out])
        clear hd hx hle
        cases hin : ([47, 0] : List UInt8).contains x with
        | false =>
          rw [hin] at hcon
          have hl0 : ¬ (0 : Int) ≤ Lib.indexByte [47, 0] x := of_decide_eq_false hcon.symm
          have HN2 := Lib.hid (HN.out.succ HX.out hin)
          clear hcon hin
          go_wp2_with fail
          refine (HRu.out _).mono ?_
          rintro e w2 ⟨rfl, hw2⟩
          rw [hw2]
          clear hw2
          go_wp2
          go_roundw
          case rel => exact ⟨pos + 1, by omega, HI2, HB2, HN2⟩
          case measure => rw [HIP.out, HIP2.out]; omega
        | true =>
          rw [hin] at hcon
          have hl0 : (0 : Int) ≤ Lib.indexByte [47, 0] x := of_decide_eq_true hcon.symm
          have HH := Lib.hid (Lib.indexAny_hit HN.out HX.out hin)
          clear hcon hin
          go_wp2_with fail
          refine (HRu.out _).mono ?_
          rintro e w2 ⟨rfl, hw2⟩
          rw [hw2]
          clear hw2
          go_wp2
          go_ret
          exact ⟨by rw [HH.out]; rfl, HB2.out⟩
      · have hsp := decode_span s pos hp2 (by omega)
        have hhi := decode_high s pos hp2 (by omega)
        have HN2 := Lib.hid (noAny_span s pos hp2 (by omega) HN.out)
        obtain ⟨r, hr⟩ : ∃ r, r = (Utf8.decode s pos).1 := ⟨_, rfl⟩
        obtain ⟨d, hd⟩ : ∃ d, d = (Utf8.decode s pos).2 := ⟨_, rfl⟩
        rw [← hr] at hnx hle hhi
        rw [← hd] at hnx hsp hhi HN2
        have HI2 := Lib.hid (Lib.iterAt_heap wr w.heap.size s pos (pos + d) HI.out)
        have HB2 := Lib.hid (Lib.below_iterAt HB.out (Nat.le_refl _) s (pos + d))
        have HIP : Hid (wr.iterPos w.heap.size = pos) := Lib.hid (by unfold World.iterPos; rw [HI.out])
        have HRu := Lib.hid (fun W => indexRune_high (r : Int) W (by omega) (by omega))
        have hsl : (wr.iterAt w.heap.size s (pos + d)).heap.size = wr.heap.size := Lib.iterAt_size ..
        have HSl := Lib.hid hsl
        have hpd : pos + d ≤ s.size := hsp.1
        have hd1 : 1 ≤ d := hhi.2
        clear hr hd hsp hhi ha hsl hle
        go_wp2_with fail
        refine (HRu.out _).mono ?_
        rintro e w2 ⟨rfl, hb2⟩
        have HI3 : Hid (w2.heap[w.heap.size]? = some (.stringIter s (pos + d))) := Lib.hid ((hb2.block _ (by rw [HSl.out]; exact hlt)).trans HI2.out)
        have HB3 := Lib.hid (HB2.out.trans (hb2.mono (by rw [HSl.out]; omega)))
        have HIP3 : Hid (w2.iterPos w.heap.size = pos + d) := Lib.hid (by unfold World.iterPos; rw [HI3.out])
        clear hb2
        go_wp2
        go_roundw
        case rel => exact ⟨pos + d, by omega, HI3, HB3, HN2⟩
        case measure => rw [HIP.out, HIP3.out]; omega
    · have hps : pos = s.size := by omega
      subst hps
      have hnx := fun ty => Lib.run_next_end_at (P := Tryz.prog) wr w.heap.size s s.size ty HI.out hp2
      have HF := Lib.hid (Lib.indexAny_none (s := s.data.toList) (chars := [47, 0]) (by rw [← Lib.size_eq]; exact HN.out))
      clear hp2
      go_wp2
      go_ret
      exact ⟨by rw [HF.out]; rfl, HB.out⟩
end Go.Proofs.YtgbakogihkdddaaGreatDoor

namespace Go.Proofs.YtgbakogihkdddaaGreatDoor
open Go.RowKit Go.Shelf
set_option linter.unusedVariables false
set_option linter.unusedSimpArgs false

theorem indexAny_any (s : ByteArray) (w : World) (hs : s.size < 4294967281) :
    Calls Tryz.prog 92 #[.string s, .string s47] w fun e w' => e = .returned (.int .i64 (Lib.indexAny s.data.toList [47, 0])) ∧ Below w.heap.size w w' := by
  by_cases h8 : s.size ≤ 8
  · exact indexAny_short s w h8
  · have hac : ∀ (j : Nat) (b : UInt8), s47.data.toList[j]? = some b → b.toNat < 128 := by
      intro j b hb
      rw [data47] at hb
      rcases (show j = 0 ∨ j = 1 ∨ 2 ≤ j by omega) with rfl | rfl | h
      · simp at hb; subst hb; decide
      · simp at hb; subst hb; decide
      · rw [List.getElem?_eq_none (by simpa using h)] at hb; cases hb
    refine (Tryz.strings_IndexAny_long (zero_of_info (P := Tryz.prog) (t := 150) (n := 256) (by kernel_rfl)).1 s s47 w (by decide) (by omega) hs (by decide) hac).mono ?_
    rintro e w' ⟨rfl, rfl⟩
    exact ⟨rfl, ((Below.refl _ w).alloc (Nat.le_refl _) _).alloc (by simp) _⟩
set_option maxHeartbeats 1000000 in
theorem containsAny_any (s : ByteArray) (w : World) (hs : s.size < 4294967281) :
    Calls Tryz.prog 68 #[.string s, .string s47] w fun e w' => e = .returned (.bool (decide (0 ≤ Lib.indexAny s.data.toList [47, 0]))) ∧ Below w.heap.size w w' := by
  go_enter Tryz.func68, Tryz.ntmps68
  go_wp2_with fail
  refine (indexAny_any s w hs).mono ?_
  rintro e w1 ⟨rfl, hb⟩
  go_wp2
  go_ret
  exact ⟨rfl, hb⟩

set_option maxHeartbeats 1000000 in
theorem ok_calls (s : ByteArray) (w : World) (hs : s.size < 4294967281) :
    Calls Tryz.prog 42 #[.string s] w fun e w' => e = .returned (.bool (okN s)) ∧ Below w.heap.size w w' := by
  have HC := Lib.hid (containsAny_any s w hs)
  have HO : Hid (okN s = (!s.toList.isEmpty && decide (s.size ≤ 255) && !(s.toList == [46]) && !(s.toList == [46, 46]) && !decide (0 ≤ Lib.indexAny s.data.toList [47, 0]))) := Lib.hid rfl
  obtain ⟨b, hb⟩ : ∃ b, b = decide (0 ≤ Lib.indexAny s.data.toList [47, 0]) := ⟨_, rfl⟩
  rw [← hb] at HC HO
  clear hb
  go_enter Tryz.func42, Tryz.ntmps42
  by_cases h1 : s.toList = []
  · have HF : Hid (okN s = false) := Lib.hid (by rw [HO.out, h1]; rfl)
    go_wp2
    go_ret
    exact ⟨by rw [HF.out]; rfl, Below.refl _ _⟩
  · by_cases h2 : (s.size : Int) ≤ 255
    · by_cases h3 : s.toList = [46]
      · have HF : Hid (okN s = false) := Lib.hid (by rw [HO.out, h3]; simp)
        go_wp2
        go_ret
        exact ⟨by rw [HF.out]; rfl, Below.refl _ _⟩
      · by_cases h4 : s.toList = [46, 46]
        · have HF : Hid (okN s = false) := Lib.hid (by rw [HO.out, h4]; simp)
          go_wp2
          go_ret
          exact ⟨by rw [HF.out]; rfl, Below.refl _ _⟩
        · have HF : Hid (okN s = !b) := Lib.hid (by
            have e1 : s.toList.isEmpty = false := by simpa using h1
            have e2 : decide (s.size ≤ 255) = true := decide_eq_true (by omega)
            have e3 : (s.toList == [46]) = false := by simpa using h3
            have e4 : (s.toList == [46, 46]) = false := by simpa using h4
            rw [HO.out, e1, e2, e3, e4]; rfl)
          have HG : Hid ((!s.toList.isEmpty && !(s.toList == [46]) && !(s.toList == [46, 46]) && !b) = !b) := Lib.hid (by
            have e1 : s.toList.isEmpty = false := by simpa using h1
            have e3 : (s.toList == [46]) = false := by simpa using h3
            have e4 : (s.toList == [46, 46]) = false := by simpa using h4
            rw [e1, e3, e4]; rfl)
          go_wp2_with fail
          refine HC.out.mono ?_
          rintro e w1 ⟨rfl, hb2⟩
          have HB := Lib.hid hb2
          clear hb2
          go_wp2
          go_ret
          exact ⟨by rw [HF.out]; exact congrArg (fun x => Ending.returned (.bool x)) HG.out, HB.out⟩
    · have HF : Hid (okN s = false) := Lib.hid (by
        have e2 : decide (s.size ≤ 255) = false := decide_eq_false (by omega)
        rw [HO.out, e2]; simp)
      go_wp2
      go_ret
      exact ⟨by rw [HF.out]; rfl, Below.refl _ _⟩
end Go.Proofs.YtgbakogihkdddaaGreatDoor

namespace Go.Proofs.YtgbakogihkdddaaGreatDoor
open Go.RowKit
open Go.Maps (Keyed)
set_option linter.unusedVariables false
set_option linter.unusedSimpArgs false
set_option maxRecDepth 20000

section
variable {ops : Array Oper} {rest : List Oper} {o : Oper} {a : Act} {w : World} {Q : Exit → Act → World → Prop}
theorem wpList_nodes_ok (hgd : o.guard = none) (m x : Operand) (hop : o.op = Op.lookup 64 m x true) {mb : Nat} {B : Int → Option Nat} {c : Nat} (hM : NodesAt w mb B c) (hm : a.eval m = .map (some mb)) {k : Int} (hx : a.eval x = .int .i64 k) (hk : -9223372036854775808 ≤ k ∧ k ≤ 9223372036854775807)
    (h : wpList Tryz.prog ops Q rest (a.put o.dst (.tuple #[ptrV (B k), .bool (B k).isSome])) w) : wpList Tryz.prog ops Q (o :: rest) a w := by
  refine wpList_plain hgd fun K' hK' => ?_
  unfold Oper.wp
  simp [execOp, hop, hm, hx, nodes_ok hM k hk w rfl, Result.andThen]
  exact hK' _ _ h
theorem wpList_nodes_at (hgd : o.guard = none) (m x : Operand) (hop : o.op = Op.lookup 64 m x false) {mb : Nat} {B : Int → Option Nat} {c : Nat} (hM : NodesAt w mb B c) (hm : a.eval m = .map (some mb)) {k : Int} (hx : a.eval x = .int .i64 k) (hk : -9223372036854775808 ≤ k ∧ k ≤ 9223372036854775807)
    (h : wpList Tryz.prog ops Q rest (a.put o.dst (ptrV (B k))) w) : wpList Tryz.prog ops Q (o :: rest) a w := by
  refine wpList_plain hgd fun K' hK' => ?_
  unfold Oper.wp
  simp [execOp, hop, hm, hx, nodes_at hM k hk w rfl, Result.andThen]
  exact hK' _ _ h
theorem wpList_names_ok (hgd : o.guard = none) (m x : Operand) (hop : o.op = Op.lookup 60 m x true) {mb : Nat} {l : Nms} (hM : NamesAt w mb l) (hm : a.eval m = .map (some mb)) {s : List UInt8} (hx : a.eval x = .string (strB s)) (hs : s.length ≤ maxLen)
    (h : wpList Tryz.prog ops Q rest (a.put o.dst (.tuple #[.int .i64 ((getK l s).getD 0), .bool (getK l s).isSome])) w) : wpList Tryz.prog ops Q (o :: rest) a w := by
  refine wpList_plain hgd fun K' hK' => ?_
  have := names_ok hM (strB s) (by rw [strB_size]; exact hs) w rfl
  rw [strB_data] at this
  unfold Oper.wp
  simp [execOp, hop, hm, hx, this, Result.andThen]
  exact hK' _ _ h
end
theorem ptrV_some (b : Nat) : ptrV (some b) = .pointer (some ⟨b, 0, none⟩) := rfl
theorem ptrV_none : ptrV none = .pointer none := rfl
theorem Kept.setRow {S : Nat → Prop} {a b : World} (h : Kept S a b) {B : Nat} (hp : S B ∨ a.heap.size ≤ B) (cs : Array Value) : Kept S a (b.setRow B cs) :=
  ⟨h.os, h.tape, h.output, by show _ ≤ (b.heap.modify B _).size; rw [Array.size_modify]; exact h.size, fun i hi hs => (setRow_other b B i cs (fun e => by rcases hp with hp | hp; exact hs (e ▸ hp); omega)).trans (h.block i hi hs)⟩
theorem results_cell_tmp {P : Program} {fn : Func} {p t : Tmp} {ty : TypeId} (h : fn.results = #[.cell p ty, .tmp t]) (tmps : Array Value) (w : World) (g : Nat) (t' : TypeId) (cs : Array Value) (fr : Nat × Nat) (d : TypeDesc)
    (hp : tmps.getD p undef = .pointer (some ⟨g, 0, none⟩)) (hg : w.heap[g]? = some (.cells cs t' fr))
    (hu : P.underlying ty = some d) (hd : (match d with | .struct _ | .array _ _ => true | _ => false) = true) (hi : (P.info? ty).map (·.size) = some cs.size) :
    (results fn tmps).run P w = .ok (.tuple #[.agg cs, tmps.getD t undef]) w := by
  have hp' := hp
  simp only [Array.getD_eq_getD_getElem?] at hp' ⊢
  simp [results, h, hp', asAddr, run_loadVar_row w g t' ty cs fr d hg hu hd hi]
/-- Where a node lies. -/
theorem FsIn.at {L : Nat → Lab} {B : Int → Option Nat} {mb : Nat} {S : Nat → Prop} {w : World} {f : Nat} {T : FsP} (h : FsIn L B mb S w f T) {i : Int} {n : NdP} (hn : T.nd i = some n) : ∃ b m a c qs, B i = some b ∧ NdSt L i w b n m a c qs := by
  have hd := h.dom i
  rw [hn] at hd
  cases hb : B i with
  | none => rw [hb] at hd; cases hd
  | some b =>
    obtain ⟨m, a, c, qs, hq⟩ := h.node i n b hn hb
    exact ⟨b, m, a, c, qs, rfl, hq⟩
theorem FsIn.gone {L : Nat → Lab} {B : Int → Option Nat} {mb : Nat} {S : Nat → Prop} {w : World} {f : Nat} {T : FsP} (h : FsIn L B mb S w f T) {i : Int} (hn : T.nd i = none) : B i = none := by
  have hd := h.dom i
  rw [hn] at hd
  cases hb : B i with
  | none => rfl
  | some b => rw [hb] at hd; cases hd
theorem NdSt.cell {L : Nat → Lab} {i : Int} {w : World} {b : Nat} {n : NdP} {m : Option Nat} {a : Option Addr} {c : Nat} {qs : List FpQ} (h : NdSt L i w b n m a c qs) (j : Nat) : w.cell? ⟨b, j, none⟩ = (ndC n m a c)[j]? := by
  rw [obj_cell h.obj]; simp
theorem NdSt.lt {L : Nat → Lab} {i : Int} {w : World} {b : Nat} {n : NdP} {m : Option Nat} {a : Option Addr} {c : Nat} {qs : List FpQ} (h : NdSt L i w b n m a c qs) : b < w.heap.size := obj_lt h.obj
theorem NdSt.range {L : Nat → Lab} {i : Int} {w : World} {b : Nat} {n : NdP} {m : Option Nat} {a : Option Addr} {c : Nat} {qs : List FpQ} (h : NdSt L i w b n m a c qs) : w.rangeAt b 0 (nvC n.v) := by
  intro j v hj
  have : j < 11 := by have := (List.getElem?_eq_some_iff.1 hj).1; simpa [nvC] using this
  rw [Nat.zero_add, h.cell j, ndC, List.getElem?_append_left (by simpa [nvC] using this)]
  exact hj

def zeroNV : NodeV := { kind := 0, mode := 0, user := 0, group := 0, time := 0, tgt := ⟨#[]⟩, major := 0, minor := 0, size := 0, links := 0, change := 0 }
def statP (T : FsP) (i : Int) : NodeV × Int := match T.nd i with | some n => (n.v, 0) | none => (zeroNV, 10)

set_option maxHeartbeats 1000000 in
theorem place_in {L : Nat → Lab} {B : Int → Option Nat} {mb : Nat} {S : Nat → Prop} {w : World} {f : Nat} {T : FsP} (h : FsIn L B mb S w f T) (dir : Int) (hdir : -9223372036854775808 ≤ dir ∧ dir ≤ 9223372036854775807) (part : List UInt8) (hs : part.length < 4294967281) :
    Calls Tryz.prog 25 #[.pointer (some ⟨f, 0, none⟩), .int .i64 dir, .string (strB part)] w fun e w' =>
      e = .returned (.tuple #[ptrV (if placeE T dir part = 0 then B dir else none), .int .i64 (placeE T dir part)]) ∧ Kept NoB w w' := by
  obtain ⟨c0, c1, c2, c3, c4⟩ := h.cells
  have HT := Lib.hid h.tab
  have HOk := Lib.hid (ok_calls (strB part) w (by rw [strB_size]; exact hs))
  cases hn : T.nd dir with
  | none =>
    have hB := h.gone hn
    have hp : placeE T dir part = 10 := by unfold placeE; rw [hn]
    rw [hp]
    clear h hp hn
    go_enter Tryz.func25, Tryz.ntmps25
    go_wp2_with (at_lookup; refine wpList_nodes_ok rfl _ _ rfl HT.out rfl rfl hdir ?_; rw [hB, ptrV_none])
    go_ret2
    exact ⟨rfl, Kept.refl _ _⟩
  | some n =>
    obtain ⟨b, m, a, c, qs, hB, hN⟩ := h.at hn
    have k0 := hN.cell 0
    have hp : placeE T dir part = if n.v.kind = 6 then (if okN (strB part) = true then 0 else 9) else 12 := by unfold placeE; rw [hn]
    rw [hp, hB]
    simp [ndC, nvC] at k0
    obtain ⟨kd, hkd⟩ : ∃ kd, kd = n.v.kind := ⟨_, rfl⟩
    rw [← hkd] at k0 ⊢
    clear h hp hn hN hkd
    go_enter Tryz.func25, Tryz.ntmps25
    by_cases h6 : kd = 6
    · subst h6
      obtain ⟨q, hq⟩ : ∃ q, q = okN (strB part) := ⟨_, rfl⟩
      rw [← hq] at HOk ⊢
      clear hq
      cases q
      · go_wp2_with (first | (at_lookup; refine wpList_nodes_ok rfl _ _ rfl HT.out rfl rfl hdir ?_; rw [hB, ptrV_some]) | (go_at_call 42; refine HOk.out.mono ?_; rintro e w1 ⟨rfl, hb1⟩))
        go_ret2
        exact ⟨rfl, (Kept.refl NoB _).ofBelow hb1⟩
      · go_wp2_with (first | (at_lookup; refine wpList_nodes_ok rfl _ _ rfl HT.out rfl rfl hdir ?_; rw [hB, ptrV_some]) | (go_at_call 42; refine HOk.out.mono ?_; rintro e w1 ⟨rfl, hb1⟩))
        go_ret2
        exact ⟨rfl, (Kept.refl NoB _).ofBelow hb1⟩
    · have h6' : (kd == 6) = false := by simpa using h6
      rw [if_neg h6]
      go_wp2_with (at_lookup; refine wpList_nodes_ok rfl _ _ rfl HT.out rfl rfl hdir ?_; rw [hB, ptrV_some])
      go_ret2
      exact ⟨rfl, Kept.refl _ _⟩
set_option maxHeartbeats 1000000 in
theorem stat_any {S : Nat → Prop} {w : World} {f : Nat} {T : FsP} (h : FsSt S w f T) (i : Int) (hi : -9223372036854775808 ≤ i ∧ i ≤ 9223372036854775807) :
    Calls Tryz.prog 15 #[.pointer (some ⟨f, 0, none⟩), .int .i64 i] w fun e w' =>
      e = .returned (.tuple #[.agg (nvC (statP T i).1).toArray, .int .i64 (statP T i).2]) ∧ Kept NoB w w' := by
  obtain ⟨L, B, mb, h⟩ := h
  have c0 := h.cells.1
  have d0 : ∀ o, (w.alloc o).cell? ⟨f, 0, none⟩ = some (.map (some mb)) := fun o => ((Kept.refl NoB w).alloc o).cell c0
  have HT := Lib.hid h.tab
  cases hn : T.nd i with
  | none =>
    have hB := h.gone hn
    have hp : statP T i = (zeroNV, 10) := by unfold statP; rw [hn]
    rw [hp]
    clear h hp hn
    have HOne := Lib.hid (nv_one zeroNV)
    go_enter Tryz.func15, Tryz.ntmps15
    go_wp2_with (first | (at_lookup; refine wpList_nodes_ok rfl _ _ rfl (MapF.kept HT.out ((Kept.refl NoB w).alloc _) id) rfl rfl hi ?_; rw [hB, ptrV_none]) | (refine wpList_store_row rfl 27 (.tmp 4) (.tmp 19) rfl w.heap.size (nvC zeroNV).toArray rfl rfl _ _ (heap_alloc_new _ _) infoNd rfl HOne.out ?_))
    refine bodyPost_ret (results_cell_tmp rfl _ _ w.heap.size 27 _ (0, 0) _ rfl (setRow_heap _ _ _ _ _ _ (heap_alloc_new _ _)) Tryz.underlying27 rfl infoNd) rfl ?_
    exact ⟨rfl, ((Kept.refl NoB w).alloc _).setRow (.inr (Nat.le_refl _)) _⟩
  | some n =>
    obtain ⟨b, m, a, c, qs, hB, hN⟩ := h.at hn
    have hp : statP T i = (n.v, 0) := by unfold statP; rw [hn]
    rw [hp]
    have HN := Lib.hid hN
    have HOne := Lib.hid (nv_one n.v)
    have HR : Hid (∀ o, (w.alloc o).rangeAt b 0 (nvC n.v)) := Lib.hid fun o => by
      intro j v hj
      exact ((Kept.refl NoB w).alloc o).cell (hN.range j v hj)
    clear h hp hn hN
    go_enter Tryz.func15, Tryz.ntmps15
    go_wp2_with (first | (at_lookup; refine wpList_nodes_ok rfl _ _ rfl (MapF.kept HT.out ((Kept.refl NoB w).alloc _) id) rfl rfl hi ?_; rw [hB, ptrV_some]) | (refine wpList_load_mid rfl 27 (.tmp 22) rfl b 0 rfl (nvC n.v) _ (HR.out _) Tryz.underlying27 rfl infoNd ?_) | (refine wpList_store_row rfl 27 (.tmp 4) (.tmp 23) rfl w.heap.size (nvC n.v).toArray rfl rfl _ _ (heap_alloc_new _ _) infoNd rfl HOne.out ?_))
    refine bodyPost_ret (results_cell_tmp rfl _ _ w.heap.size 27 _ (0, 0) _ rfl (setRow_heap _ _ _ _ _ _ (heap_alloc_new _ _)) Tryz.underlying27 rfl infoNd) rfl ?_
    exact ⟨rfl, ((Kept.refl NoB w).alloc _).setRow (.inr (Nat.le_refl _)) _⟩
set_option maxHeartbeats 1000000 in
theorem find_any {S : Nat → Prop} {w : World} {f : Nat} {T : FsP} (h : FsSt S w f T) (dir : Int) (hdir : -9223372036854775808 ≤ dir ∧ dir ≤ 9223372036854775807) (part : List UInt8) (hs : part.length < 4294967281) :
    Calls Tryz.prog 14 #[.pointer (some ⟨f, 0, none⟩), .int .i64 dir, .string (strB part)] w fun e w' =>
      e = .returned (.tuple #[.int .i64 (findP T dir part).1, .int .i64 (findP T dir part).2]) ∧ Kept NoB w w' := by
  obtain ⟨L, B, mb, h⟩ := h
  have HP := Lib.hid (place_in h dir hdir part hs)
  by_cases hp : placeE T dir part = 0
  · rw [if_pos hp, hp] at HP
    have hdn : ∃ d, T.nd dir = some d ∧ d.v.kind = 6 := by
      unfold placeE at hp
      cases hn : T.nd dir with
      | none => rw [hn] at hp; simp at hp
      | some d =>
        rw [hn] at hp
        simp only at hp
        by_cases h6 : d.v.kind = 6
        · exact ⟨d, rfl, h6⟩
        · rw [if_neg h6] at hp; omega
    obtain ⟨d, hd, h6⟩ := hdn
    obtain ⟨b, m, a, c, qs, hB, hN⟩ := h.at hd
    obtain ⟨mb2, rfl, hl, hM⟩ := hN.dir h6
    rw [hB, ptrV_some] at HP
    have hf : findP T dir part = askK (getK d.names part) := by
      unfold findP namesP; rw [if_pos hp]; simp only [hd]
    have k11 : w.cell? ⟨b, 11, none⟩ = some (.map (some mb2)) := by rw [hN.cell 11]; rfl
    have HM := Lib.hid hM
    have hs2 : part.length ≤ maxLen := by unfold maxLen; omega
    clear h hN hM hp hd
    cases hg : getK d.names part with
    | none =>
      rw [hg] at hf
      rw [hf]
      have HG := Lib.hid hg
      clear hf hg
      go_enter Tryz.func14, Tryz.ntmps14
      go_wp2_with fail
      refine HP.out.mono ?_
      rintro e w1 ⟨rfl, hk1⟩
      have l11 := hk1.cell k11
      have HK := Lib.hid hk1
      clear hk1
      go_wp2_with (at_lookup; refine wpList_names_ok rfl _ _ rfl (MapF.kept HM.out HK.out id) rfl rfl hs2 ?_; rw [HG.out])
      go_ret2
      exact ⟨rfl, HK.out⟩
    | some i =>
      rw [hg] at hf
      rw [hf]
      have HG := Lib.hid hg
      clear hf hg
      go_enter Tryz.func14, Tryz.ntmps14
      go_wp2_with fail
      refine HP.out.mono ?_
      rintro e w1 ⟨rfl, hk1⟩
      have l11 := hk1.cell k11
      have HK := Lib.hid hk1
      clear hk1
      go_wp2_with (at_lookup; refine wpList_names_ok rfl _ _ rfl (MapF.kept HM.out HK.out id) rfl rfl hs2 ?_; rw [HG.out])
      go_ret2
      exact ⟨rfl, HK.out⟩
  · rw [if_neg hp, ptrV_none] at HP
    have hf : findP T dir part = (0, placeE T dir part) := by unfold findP; rw [if_neg hp]
    rw [hf]
    obtain ⟨z, hz⟩ : ∃ z, z = placeE T dir part := ⟨_, rfl⟩
    rw [← hz] at hp HP ⊢
    have hz2 : (z == 0) = false := by simpa using hp
    clear hz hf h hp
    go_enter Tryz.func14, Tryz.ntmps14
    go_wp2_with fail
    refine HP.out.mono ?_
    rintro e w1 ⟨rfl, hk1⟩
    go_wp2
    go_ret2
    exact ⟨rfl, hk1⟩
end Go.Proofs.YtgbakogihkdddaaGreatDoor

namespace Go.Proofs.YtgbakogihkdddaaGreatDoor
open Go.RowKit
set_option linter.unusedVariables false
set_option linter.unusedSimpArgs false
set_option maxRecDepth 20000

theorem run_app_src {P : Program} (w : World) (t tx ty e : TypeId) (i : TypeInfo) (z : Value) (size bytes : Nat) (ht : P.underlying t = some (.slice e)) (hi : P.info? e = some i) (hz : i.zero = some z)
    (hsize : i.size = size) (hby : i.bytes = bytes) (hzs : z.cells.size = size) (hsz : 0 < size) (v : Value) (n : Nat) (xs : List Value) (hown : w.ownsRow 0 e size v n xs)
    (x : Value) (m : Nat) (news : List Value) (hsrc : Src P size tx x m news w) (hl : news.length = m * size) (h1 : ∀ u ∈ news, u.oneCell' = true) (hm : 0 < m)
    (h63 : n + m ≤ maxLen) (hbytes : (n + m) * bytes ≤ 140737488355328) :
    ∃ v' w', (Builtin.append_ #[t, tx] ty #[v, x]).run P w = .ok v' w' ∧ w'.ownsRow 0 e size v' (n + m) (xs ++ news) ∧ w.grownBy w' v.ownBlock ∧
      (∀ k, v'.ownBlock = some k → v.ownBlock = some k ∨ w.heap.size ≤ k) := by
  have hlen : (xs ++ news).length = (n + m) * size := by rw [List.length_append, hown.1, hl, Nat.add_mul]
  have grow : ∀ (base : Option Addr) (c : Nat), v = .slice base n c → n ≤ c → c < n + m → (Builtin.firstCells i.size n (.slice base n c)).run P w.drew = .ok xs.toArray w.drew →
      ∃ v' w', (Builtin.append_ #[t, tx] ty #[v, x]).run P w = .ok v' w' ∧ w'.ownsRow 0 e size v' (n + m) (xs ++ news) ∧ w.grownBy w' v.ownBlock ∧ (∀ k, v'.ownBlock = some k → v.ownBlock = some k ∨ w.heap.size ≤ k) := by
    intro base c hv hnc hlt hold
    subst hv
    have hr := run_append_grow_src (P := P) w t tx ty e i z ht hi hz base n c xs hold x m news (by rw [hsize]; exact hsrc) hlt (by simp only [maxLen] at h63; omega) (by rw [hby]; exact growslice_fits (by omega) hbytes)
    have hge := grownCap_ge w (n + m) c e
    have hcm2 : grownCap w (n + m) c e ≤ maxLen := grownCap_le_maxLen w (n + m) c e h63
    refine ⟨_, _, hr, ⟨hlen, .inr ⟨w.heap.size, _, _, rfl, Nat.zero_le _, heap_alloc_new w.drew _, hge, hcm2, ?_, ?_⟩⟩, ⟨rfl, rfl, rfl, by simp, fun k hk _ => heap_alloc_old w.drew _ hk⟩, fun k hk => .inr (by simp [Value.ownBlock] at hk; omega)⟩
    · simp only [Array.size_append, List.size_toArray, size_zeroCells, hzs, hlen]
      rw [← Nat.add_mul]
      congr 1
      omega
    · rw [Array.toList_append, List.toList_toArray, ← hlen, List.take_left]
  rcases hown.2 with ⟨rfl, rfl⟩ | ⟨g, c, cur, rfl, hbg, hg, hnc, hcm, hcs, htake⟩
  · have hx : xs = [] := List.eq_nil_of_length_eq_zero (by simpa using hown.1)
    subst hx
    exact grow none 0 rfl (Nat.le_refl _) (by omega) (run_firstCells_none w.drew i.size 0 0 0)
  · by_cases hroom : n + m ≤ c
    · have hfit : n * size + news.length ≤ cur.size := by rw [hcs, hl, ← Nat.add_mul]; exact Nat.mul_le_mul_right _ hroom
      have hst := run_storeCells_at P g (n * size) e news 0 cur w hg (by simpa using hfit) h1
      simp only [Nat.add_zero] at hst
      obtain ⟨row, hrow⟩ : ∃ row, row = (cur.toList.take (n * size) ++ news ++ cur.toList.drop (n * size + news.length)).toArray := ⟨_, rfl⟩
      have hrun : (Builtin.append_ #[t, tx] ty #[.slice (some ⟨g, 0, none⟩) n c, x]).run P w = .ok (.slice (some ⟨g, 0, none⟩) (n + m) c) (w.setRow g row) := by
        rw [← hrow] at hst
        have h2 := hsrc.cells
        have h3 := hsrc.len
        rcases hsrc.kind with ⟨e', hk⟩ | hk <;> simp [Builtin.append_, run_underlying ht, run_underlying hk, sizeOf, typeInfo, hi, h3, hroom, hsize, h2, Addr.add_lit, hst]
      have hrs : row.size = c * size := by
        rw [hrow]
        simp only [List.size_toArray, List.length_append, List.length_take, List.length_drop, Array.length_toList]
        omega
      have hrt : row.toList.take ((n + m) * size) = xs ++ news := by
        rw [hrow, List.toList_toArray, htake, ← hlen]
        exact List.take_left
      exact ⟨_, _, hrun, ⟨hlen, .inr ⟨g, c, row, rfl, hbg, setRow_heap w g cur _ _ _ hg, hroom, hcm, hrs, hrt⟩⟩, ⟨rfl, rfl, rfl, by simp, fun k hk _ => setRow_other w g k _ (fun e => by subst e; simp [Value.ownBlock] at *)⟩, fun k hk => .inl (by simpa [Value.ownBlock] using hk)⟩
    · have hnew : ∀ j u, xs[j]? = some u → w.drew.cell? ((⟨g, 0, none⟩ : Addr).add j) = some u := hown.cells (g := g) rfl
      have hold := run_firstCells_some (P := P) w.drew i.size n ⟨g, 0, none⟩ n c xs (by rw [hsize]; exact hown.1) hnew
      exact grow (some ⟨g, 0, none⟩) c rfl hnc (by omega) hold
theorem wpList_app_src {P : Program} {w : World} {ops : Array Oper} {rest : List Oper} {o : Oper} {a : Act} {Q : Exit → Act → World → Prop} (hgd : o.guard = none) (s x : Operand) (t tx : TypeId)
    (ho : o.op = .call { callee := .builtin .append, args := #[s, x], argTypes := #[t, tx] })
    (e : TypeId) (i : TypeInfo) (z : Value) (size bytes : Nat) (ht : P.underlying t = some (.slice e)) (hi : P.info? e = some i) (hz : i.zero = some z)
    (hsize : i.size = size) (hby : i.bytes = bytes) (hzs : z.cells.size = size) (hsz : 0 < size) (v : Value) (n : Nat) (xs : List Value) (hs : a.eval s = v) (hown : w.ownsRow 0 e size v n xs)
    (xv : Value) (hx : a.eval x = xv) (m : Nat) (news : List Value) (hsrc : Src P size tx xv m news w) (hl : news.length = m * size) (h1 : ∀ u ∈ news, u.oneCell' = true) (hm : 0 < m)
    (h63 : n + m ≤ maxLen) (hbytes : (n + m) * bytes ≤ 140737488355328)
    (h : ∀ v' w', w'.ownsRow 0 e size v' (n + m) (xs ++ news) → w.grownBy w' v.ownBlock → (∀ k, v'.ownBlock = some k → v.ownBlock = some k ∨ w.heap.size ≤ k) → wpList P ops Q rest (a.put o.dst v') w') : wpList P ops Q (o :: rest) a w :=
  wpList_plain hgd fun _ hK => by
    obtain ⟨v', w', hr, h2, h3, h4⟩ := run_app_src (P := P) w t tx o.type e i z size bytes ht hi hz hsize hby hzs hsz v n xs hown xv m news hsrc hl h1 hm h63 hbytes
    unfold Oper.wp execOp
    simp only [ho, resolve, invoke, builtin, Sem.run_bind, Sem.run_pure, Result.andThen_ok, List.map_toArray, List.map_cons, List.map_nil, hs, hx, hr]
    exact hK _ _ (h v' w' h2 h3 h4)
end Go.Proofs.YtgbakogihkdddaaGreatDoor
