/-
  strings.ContainsAny at "/\x00" and any bytes: what a rune that is no single byte has to do with it.
-/
import Derived.Test.YtilndmmjdbhmgaaKit
import Derived.Test.YtilndmmjdbhmgaaShelfN
import Derived.Lib.OthersKept
import Derived.Lib.IndexLaws
import Derived.Laws.RangeAny
import Derived.Laws.Runes
import Derived.WalkMore
namespace Go.Proofs.Ytilndmmjdbhmgaa
open Go.RowKit
set_option linter.unusedVariables false
set_option linter.unusedSimpArgs false

def s47 : ByteArray := ⟨#[47, 0]⟩
theorem decode_span (s : ByteArray) (pos : Nat) (h : pos < s.size) (ha : 128 ≤ (s[pos]'h).toNat) : pos + (Utf8.decode s pos).2 ≤ s.size ∧ ∀ k, k < (Utf8.decode s pos).2 → 128 ≤ (s.get! (pos + k)).toNat := by
  have h0 : 128 ≤ (s.get! (pos + 0)).toNat := by rw [get_at s pos h]; exact ha
  have hn : ¬ (s.get! (pos + 0)).toNat < 128 := by omega
  have one : ∀ k, k < 1 → 128 ≤ (s.get! (pos + k)).toNat := fun k hk => by
    have : k = 0 := by omega
    subst this; exact h0
  simp only [Utf8.decode, hn, if_false]
  split
  · rename_i c
    simp at c
    split
    · refine ⟨by omega, fun k hk => ?_⟩
      rcases (show k = 0 ∨ k = 1 by omega) with rfl | rfl
      · exact h0
      · omega
    · exact ⟨by show pos + 1 ≤ _; omega, one⟩
  · split
    · rename_i c
      simp at c
      split
      · refine ⟨by omega, fun k hk => ?_⟩
        rcases (show k = 0 ∨ k = 1 ∨ k = 2 by omega) with rfl | rfl | rfl
        · exact h0
        · omega
        · omega
      · exact ⟨by show pos + 1 ≤ _; omega, one⟩
    · split
      · rename_i c
        simp at c
        split
        · refine ⟨by omega, fun k hk => ?_⟩
          rcases (show k = 0 ∨ k = 1 ∨ k = 2 ∨ k = 3 by omega) with rfl | rfl | rfl | rfl
          · exact h0
          · omega
          · omega
          · omega
        · exact ⟨by show pos + 1 ≤ _; omega, one⟩
      · exact ⟨by show pos + 1 ≤ _; omega, one⟩

set_option maxRecDepth 20000 in
set_option maxHeartbeats 4000000 in
theorem indexRune_high (r : Int) (w : World) (h0 : 128 ≤ r) (h1 : r ≤ 2147483647) :
    Calls Try.prog 109 #[.string s47, .int .i32 r] w fun e w' => e = .returned (.int .i64 (-1)) ∧ Below w.heap.size w w' := by
  have q0 : ¬ r < 128 := by omega
  have q1 : (0 : Int) ≤ r := by omega
  have hsz : s47.size = 2 := rfl
  by_cases he : r = 65533
  · subst he
    go_enter Try.func109, Try.ntmps109
    go_wp2
    go_loopw [5, 6] (fun _ _ wr => ∃ pos : Nat, pos ≤ 2 ∧ Hid (wr.heap[w.heap.size]? = some (.stringIter s47 pos)) ∧ Hid (Below w.heap.size w wr)) (fun _ _ wr => 2 - wr.iterPos w.heap.size)
    case atStart => exact ⟨0, by omega, Lib.hid (World.iter_heap w s47 0), Lib.hid ((Below.refl _ w).alloc (Nat.le_refl _) _)⟩
    case round =>
      obtain ⟨pos, hp, HI, HB⟩ := hrel
      by_cases hp2 : pos < 2
      · have hx : (s47[pos]'(by rw [hsz]; exact hp2)).toNat < 128 ∧ ((s47[pos]'(by rw [hsz]; exact hp2)).toNat : Int) ≠ 65533 := by
          rcases (show pos = 0 ∨ pos = 1 by omega) with rfl | rfl
          · exact ⟨by show (47 : UInt8).toNat < 128; decide, by show (((47 : UInt8).toNat : Nat) : Int) ≠ 65533; decide⟩
          · exact ⟨by show (0 : UInt8).toNat < 128; decide, by show (((0 : UInt8).toNat : Nat) : Int) ≠ 65533; decide⟩
        have hnx := fun ty => Lib.run_next_ascii_at (P := Try.prog) wr w.heap.size s47 pos ty HI.out (by rw [hsz]; exact hp2) hx.1
        obtain ⟨x, hxe⟩ : ∃ x : Nat, x = (s47[pos]'(by rw [hsz]; exact hp2)).toNat := ⟨_, rfl⟩
        rw [← hxe] at hx hnx
        have q3 : ((x : Int) == 65533) = false := by simpa using hx.2
        have HI2 := Lib.hid (Lib.iterAt_heap wr w.heap.size s47 pos (pos + 1) HI.out)
        have HB2 := Lib.hid (Lib.below_iterAt HB.out (Nat.le_refl _) s47 (pos + 1))
        have HIP : Hid (wr.iterPos w.heap.size = pos) := Lib.hid (by unfold World.iterPos; rw [HI.out])
        have HIP2 : Hid ((wr.iterAt w.heap.size s47 (pos + 1)).iterPos w.heap.size = pos + 1) := Lib.hid (by unfold World.iterPos; rw [HI2.out])
        clear hxe hx
        go_wp2
        go_roundw
        case rel => exact ⟨pos + 1, by omega, HI2, HB2⟩
        case measure => rw [HIP.out, HIP2.out]; omega
      · have hnx := fun ty => Lib.run_next_end_at (P := Try.prog) wr w.heap.size s47 pos ty HI.out (by rw [hsz]; omega)
        go_wp2
        go_ret
        exact ⟨rfl, HB.out⟩
  · have q2 : (r == 65533) = false := by simpa using he
    cases hv : Lib.validRune r with
    | false =>
      go_enter Try.func109, Try.ntmps109
      go_wp2_with fail
      refine (Try.utf8_ValidRune _ _).mono ?_
      rintro e w1 ⟨rfl, rfl⟩
      rw [hv]
      go_wp2
      go_ret
      exact ⟨rfl, Below.refl _ _⟩
    | true =>
      have hvv : Utf8.valid r = true := by rw [validRune_eq]; exact hv
      obtain ⟨e2, e4, e8⟩ := encode_facts r hvv h0
      obtain ⟨E, hE⟩ : ∃ E, E = Utf8.encode r := ⟨_, rfl⟩
      rw [← hE] at e2 e4 e8
      have hcv : ∀ W, (convert 21 9 (.int .i32 r)).run Try.prog W = .ok (.string E) W := fun W => by
        rw [hE]; exact run_convert_int_string W _ _ .i32 r rfl rfl
      clear hE
      go_enter Try.func109, Try.ntmps109
      go_wp2_with fail
      refine (Try.utf8_ValidRune _ _).mono ?_
      rintro e w1 ⟨rfl, hw⟩
      rw [hw, hv]
      clear hw
      obtain ⟨M, hM⟩ : ∃ M : Nat, E.size = M + 1 := ⟨E.size - 1, by omega⟩
      have hw1 : IntKind.i64.wrap ((E.size : Int) - 1) = (M : Int) := by rw [IntWalk.i64_in _ (by omega)]; omega
      have hMl : M < E.size := by omega
      have hEM : 128 ≤ (E[M]'hMl).toNat := by
        have h := e8 (by omega)
        have e : E.size - 1 = M := by omega
        simpa [e] using h
      clear e8
      go_wp2
      go_step3
      go_wp2
      go_loopw [9, 10, 11, 12] (fun v9 _ _ _ wr => v9 = .int .i64 (M : Int) ∧ Hid (w = wr)) (fun _ _ _ _ _ => 0)
      case atStart => exact ⟨by go_num, Lib.hid rfl⟩
      case round =>
        obtain ⟨rfl, HW⟩ := hrel
        by_cases hM2 : M < 2
        · have hM1 : M = 1 := by omega
          subst hM1
          have hs1 : (s47[1]'(by rw [hsz]; decide)).toNat = 0 := rfl
          obtain ⟨x1, hx1⟩ : ∃ x1, x1 = (s47[1]'(by rw [hsz]; decide)).toNat := ⟨_, rfl⟩
          obtain ⟨y1, hy1⟩ : ∃ y1, y1 = (E[1]'hMl).toNat := ⟨_, rfl⟩
          have q5 : (((s47[1]'(by rw [hsz]; decide)).toNat : Int) != ((E[1]'hMl).toNat : Int)) = true := by rw [hs1]; simp; omega
          have HIb := Lib.hid (fun W => Try.strings_IndexByte ByteArray.empty ((E[1]'hMl).toNat : Int) W)
          rw [show Lib.indexByte ByteArray.empty.data.toList (((E[1]'hMl).toNat : Int)).toNat.toUInt8 = -1 from rfl] at HIb
          clear hx1 hy1 hs1
          have hw2 : IntKind.i64.wrap 2 = 2 := by decide
          have hw3 : IntKind.i64.wrap ((1 : Nat) : Int) = 1 := by decide
          go_wp2
          go_step3
          go_upto_region 6 with fail
          go_quiet (fail)
          obtain ⟨wq, hwq⟩ : ∃ wq, wq = wr.drewN nq := ⟨_, rfl⟩
          have HQ : Hid (Below w.heap.size w wq) := Lib.hid (by rw [hwq, ← HW.out]; exact ((Kept.refl NoB w).drewN nq).belowNo (Below.refl _ _))
          rw [← hwq]
          clear hwq
          go_wp2
          go_quiet ((go_at_call 124; exact Calls.quiet_of_same ((HIb.out _).mono fun _ _ h => ⟨h.1, h.2⟩)))
          have HQ2 := Lib.hid (((Kept.refl NoB wq).drewN nq).belowNo HQ.out)
          go_wp2
          rw [Exit.noGoto_ret]
          go_wp2
          rw [Exit.noGoto_ret]
          go_ret
          exact ⟨rfl, HQ2.out⟩
        · go_wp2
          rw [Exit.noGoto_ret]
          go_ret
          exact ⟨rfl, by rw [← HW.out]; exact Below.refl _ _⟩
end Go.Proofs.Ytilndmmjdbhmgaa
