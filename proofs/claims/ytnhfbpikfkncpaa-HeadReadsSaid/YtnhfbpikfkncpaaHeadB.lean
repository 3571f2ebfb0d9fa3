/-
  head: text, Zero.
-/
import Derived.Test.YtnhfbpikfkncpaaHeadA
import Derived.Shelf.Bytes.SlCountOne
import Derived.BigQuiet
namespace Go.Proofs.Ytnhfbpikfkncpaa
open Go.RowKit
set_option linter.unusedVariables false
set_option linter.unusedSimpArgs false

theorem u8_zero {x : Int} (h : 0 ≤ x ∧ x < 256) : (x.toNat.toUInt8 == (0 : UInt8)) = (x == 0) := by
  rw [Bool.eq_iff_iff]
  simp only [beq_iff_eq]
  constructor
  · intro e
    have := congrArg UInt8.toNat e
    simp at this
    omega
  · intro e; subst e; rfl
theorem cutZ_index : ∀ l : List Int, AllB l → (Lib.indexByte (Lib.bytesOf l) 0 = -1 ∧ cutZ l = l) ∨ ∃ k : Nat, Lib.indexByte (Lib.bytesOf l) 0 = (k : Int) ∧ k < l.length ∧ cutZ l = l.take k
  | [], _ => .inl ⟨rfl, rfl⟩
  | b :: l, h => by
    have hb := h b List.mem_cons_self
    have hz := u8_zero hb
    have e : Lib.bytesOf (b :: l) = b.toNat.toUInt8 :: Lib.bytesOf l := rfl
    by_cases h0 : b = 0
    · refine .inr ⟨0, ?_, by simp, ?_⟩
      · rw [e, Lib.indexByte, hz, if_pos (by simpa using h0)]; rfl
      · subst h0; rfl
    · have h0' : (b == 0) = false := by simpa using h0
      have ec : cutZ (b :: l) = b :: cutZ l := by
        unfold cutZ
        rw [List.takeWhile_cons]
        simp [h0]
      rcases cutZ_index l (fun x hx => h x (List.mem_cons_of_mem _ hx)) with ⟨h1, h2⟩ | ⟨k, h1, h2, h3⟩
      · refine .inl ⟨?_, ?_⟩
        · rw [e, Lib.indexByte, hz, h0', h1]; rfl
        · rw [ec, h2]
      · refine .inr ⟨k + 1, ?_, by simpa using h2, ?_⟩
        · rw [e, Lib.indexByte, hz, h0', h1, if_neg (by simp), if_neg (by simp)]
          first | rfl | omega
        · rw [ec, h3]; rfl
theorem count_all : ∀ l : List Int, AllB l → (Lib.countByte (Lib.bytesOf l) 0 = l.length ↔ l = List.replicate l.length 0)
  | [], _ => by simp [Lib.countByte, Lib.bytesOf]
  | b :: l, h => by
    have hb := h b List.mem_cons_self
    have hz := u8_zero hb
    have e : Lib.bytesOf (b :: l) = b.toNat.toUInt8 :: Lib.bytesOf l := rfl
    have ih := count_all l (fun x hx => h x (List.mem_cons_of_mem _ hx))
    have hle : Lib.countByte (Lib.bytesOf l) 0 ≤ l.length := by
      have := List.count_le_length (a := (0 : UInt8)) (l := Lib.bytesOf l)
      have e2 : (Lib.bytesOf l).length = l.length := by simp [Lib.bytesOf]
      unfold Lib.countByte
      omega
    unfold Lib.countByte at ih hle ⊢
    rw [e, List.count_cons, hz, List.length_cons, List.replicate_succ, List.cons.injEq]
    by_cases h0 : b = 0
    · subst h0
      simp only [beq_self_eq_true, if_true, true_and]
      rw [← ih]; omega
    · have h0' : (b == 0) = false := by simpa using h0
      rw [h0']
      simp only [h0, false_and, iff_false]
      simp
      omega

/-- What Cut gives at a nought. -/
def CutzR (w : World) (a : Addr) (cap k : Nat) (e : Ending) (w' : World) : Prop :=
  ∃ v2 ok, e = .returned (.tuple #[.slice (some a) k cap, v2, .bool ok]) ∧ Kept NoB w w'
set_option maxRecDepth 20000 in
set_option maxHeartbeats 2000000 in
theorem cutz_any (g o n cap s d : Nat) (bs : List Int) (w : World) (hn : n = bs.length) (hb : AllB bs) (hr : Reads w (some ⟨g, o, none⟩) bs) (h10 : w.cell? ⟨s, 0, none⟩ = some (.int .u8 0)) (hc : n ≤ cap) (hm : cap ≤ 9223372036854775807) :
    Calls Try.prog 40 #[.slice (some ⟨g, o, none⟩) n cap, .slice (some ⟨s, 0, none⟩) 1 d] w (CutzR w ⟨g, o, none⟩ cap (cutZ bs).length) := by
  have hcells : ∀ i, i < n → w.cell? ⟨g, o + i, none⟩ = some (.int .u8 (bs.getD i 0)) := fun i hi => by
    have := hr.2 _ rfl i (by rw [← hn]; exact hi)
    rwa [addr_add] at this
  have HI := Try.bytes_Index_one g o n cap s 0 d bs 0 w hn.symm hcells h10
  have e10 : (0 : Int).toNat.toUInt8 = 0 := by decide
  rw [e10] at HI
  rcases cutZ_index bs hb with ⟨h1, h2⟩ | ⟨k, h1, h2, h3⟩
  · rw [h1] at HI
    have HI := Lib.hid HI
    have e4 : (cutZ bs).length = n := by rw [h2, hn]
    rw [e4]
    clear h1 h2 hcells e10 hr h10 hn e4 hb
    go_enter Try.func40, Try.ntmps40
    go_wp2_with fail
    with_reducible refine HI.out.mono ?_
    rintro e w1 ⟨rfl, rfl⟩
    go_wp2
    go_ret3
    exact ⟨_, _, rfl, Kept.refl _ _⟩
  · rw [h1] at HI
    have HI := Lib.hid HI
    have e4 : (cutZ bs).length = k := by rw [h3, List.length_take]; omega
    rw [e4]
    obtain ⟨k1, hk1⟩ : ∃ k1, k1 = k + 1 := ⟨_, rfl⟩
    have hk0 : k ≤ n := by omega
    have hk2 : k1 ≤ n := by omega
    have c5 : (k : Int) + 1 = (k1 : Int) := by omega
    clear h1 h2 h3 e4 hcells e10 hr h10 hk1 hn hb
    go_enter Try.func40, Try.ntmps40
    go_wp2_with fail
    with_reducible refine HI.out.mono ?_
    rintro e w1 ⟨rfl, rfl⟩
    go_wp2_with fail
    go_quiet (fail)
    all_goals (try go_wp2)
    all_goals (go_ret3; exact ⟨_, _, rfl, (Kept.refl _ _).drewN _⟩)
set_option maxRecDepth 20000 in
set_option maxHeartbeats 2000000 in
theorem htext_any (g o n cap : Nat) (bs : List Int) (w : World) (hn : n = bs.length) (hb : AllB bs) (hr : Reads w (some ⟨g, o, none⟩) bs) (hc : n ≤ cap) (hm : cap ≤ 9223372036854775807) :
    Calls Try.prog 26 #[.slice (some ⟨g, o, none⟩) n cap] w fun e w' => e = .returned (.string (strOfNums (cutZ bs))) ∧ Kept NoB w w' := by
  obtain ⟨q, hq⟩ : ∃ q, q = w.heap.size := ⟨_, rfl⟩
  obtain ⟨wA, hwA⟩ : ∃ wA, wA = w.alloc (.cells #[.int .u8 0] 5) := ⟨_, rfl⟩
  have hkA : Kept NoB w wA := by rw [hwA]; exact (Kept.refl NoB w).alloc _
  have hA0 : wA.cell? ⟨q, 0, none⟩ = some (.int .u8 0) := by rw [hwA]; exact cell_new 0 hq
  have HC := Lib.hid (cutz_any g o n cap q 1 bs wA hn hb (hr.keptNo hkA) hA0 hc hm)
  have hk : (cutZ bs).length ≤ bs.length := (List.takeWhile_prefix _).length_le
  have htk : bs.take (cutZ bs).length = cutZ bs := by
    have := List.prefix_iff_eq_take.1 (List.takeWhile_prefix (fun x => x != 0) (l := bs))
    exact this.symm
  obtain ⟨k, hk2⟩ : ∃ k, k = (cutZ bs).length := ⟨_, rfl⟩
  rw [← hk2] at HC hk htk
  have hcv : ∀ W, Kept NoB wA W → (convert 24 9 (.slice (some ⟨g, o, none⟩) k cap)).run Try.prog W = .ok (.string (strOfNums (cutZ bs))) W := fun W hW => by
    have h2 := reads_take k ((hr.keptNo hkA).keptNo hW)
    rw [htk] at h2
    exact conv_reads h2 hk2 (fun h => by cases h)
  have HCv := Lib.hid hcv; have HKA := Lib.hid hkA
  clear hr hb hn hk htk hk2 hcv hkA hA0
  go_enter Try.func26, Try.ntmps26
  go_wp2_with fail
  rw [← hq, ← hwA]
  clear hq hwA
  with_reducible refine HC.out.mono ?_
  rintro e w1 ⟨v2, ok, rfl, hk1⟩
  have hcv1 := HCv.out w1 hk1
  have HK1 := Lib.hid (HKA.out.trans hk1)
  clear hk1
  go_wp2
  go_ret
  exact ⟨rfl, HK1.out⟩
/-- bytes.Count at one byte. -/
theorem count_any (g o n cap s d : Nat) (bs : List Int) (w : World) (hn : n = bs.length) (hr : Reads w (some ⟨g, o, none⟩) bs) (h10 : w.cell? ⟨s, 0, none⟩ = some (.int .u8 0)) :
    Calls Try.prog 34 #[.slice (some ⟨g, o, none⟩) n cap, .slice (some ⟨s, 0, none⟩) 1 d] w fun e w' => e = .returned (.int .i64 (Lib.countByte (Lib.bytesOf bs) 0 : Nat)) ∧ w' = w := by
  have hcells : ∀ i, i < n → w.cell? ⟨g, o + i, none⟩ = some (.int .u8 (bs.getD i 0)) := fun i hi => by
    have := hr.2 _ rfl i (by rw [← hn]; exact hi)
    rwa [addr_add] at this
  have HR := Lib.hid (Lib.run_countSlice (P := Try.prog) w g o n cap bs hn.symm hcells 0)
  clear hcells hr hn
  go_enter Try.func34, Try.ntmps34
  go_wp2
  rw [run_callFunc_extern Try.func43 (by kernel_rfl) (by kernel_rfl) (by kernel_rfl) (e := Extern.BytealgCount.count) (by kernel_rfl), HR.out]
  simp only [Result.andThen]
  rw [Oper.upon_value]
  go_wp2
  go_ret
  exact ⟨rfl, rfl⟩
def zeroL (bs : List Int) : Bool := decide (bs = List.replicate 512 0)
set_option maxRecDepth 20000 in
set_option maxHeartbeats 2000000 in
theorem hzero_any (ao : Option Addr) (n cap : Nat) (bs : List Int) (w : World) (hr : Reads w ao bs) (hb : AllB bs) (hn : n = bs.length) :
    Calls Try.prog 17 #[.slice ao n cap] w fun e w' => e = .returned (.bool (zeroL bs)) ∧ Kept NoB w w' := by
  by_cases h5 : n = 512
  · subst h5
    obtain ⟨b, off, rfl, _, _⟩ := hr.at (by omega)
    obtain ⟨q, hq⟩ : ∃ q, q = w.heap.size := ⟨_, rfl⟩
    obtain ⟨wA, hwA⟩ : ∃ wA, wA = w.alloc (.cells #[.int .u8 0] 5) := ⟨_, rfl⟩
    have hkA : Kept NoB w wA := by rw [hwA]; exact (Kept.refl NoB w).alloc _
    have hA0 : wA.cell? ⟨q, 0, none⟩ = some (.int .u8 0) := by rw [hwA]; exact cell_new 0 hq
    have HC := Lib.hid (count_any b off 512 cap q 1 bs wA hn (hr.keptNo hkA) hA0)
    have hz := count_all bs hb
    rw [← hn] at hz
    have HZ : Hid (zeroL bs = ((Lib.countByte (Lib.bytesOf bs) 0 : Nat) == 512)) := Lib.hid (by
      unfold zeroL
      rw [Bool.eq_iff_iff, decide_eq_true_eq, beq_iff_eq, hz])
    obtain ⟨c, hc⟩ : ∃ c : Nat, c = Lib.countByte (Lib.bytesOf bs) 0 := ⟨_, rfl⟩
    rw [← hc] at HC HZ
    have HKA := Lib.hid hkA
    clear hr hb hn hkA hA0 hz hc
    go_enter Try.func17, Try.ntmps17
    go_wp2_with fail
    rw [← hq, ← hwA]
    clear hq hwA
    with_reducible refine HC.out.mono ?_
    rintro e w1 ⟨rfl, rfl⟩
    go_wp2
    go_ret
    refine ⟨?_, HKA.out⟩
    rw [HZ.out]
    have e : ((c : Int) == 512) = (c == 512) := by rw [Bool.eq_iff_iff, beq_iff_eq, beq_iff_eq]; omega
    show Ending.returned (Value.bool ((c : Int) == 512)) = _
    rw [e]
  · have HZ : Hid (zeroL bs = false) := Lib.hid (decide_eq_false (fun e => h5 (by rw [hn, e]; simp)))
    have h2 : ((n : Int) == 512) = false := by simp; omega
    clear hr hn hb
    go_enter Try.func17, Try.ntmps17
    go_wp2
    go_ret
    exact ⟨by rw [HZ.out]; rfl, Kept.refl _ _⟩
end Go.Proofs.Ytnhfbpikfkncpaa
