/-
  A tree of files that a call has made for itself; what the document fixes (awake).
  What the document fixes of ways through trees (awake).
  The document's own Digits of a number.
  'n & (1 << k - 1)' on an int.
-/
import Derived.Test.YtjjgadanobeamaaDoorMw12
import Derived.Lib.SlBytesConst
import Derived.ChangeKeysEq
import Derived.Laws.StructEq
namespace Go.Proofs.YtjjgadanobeamaaDoor
open Go.RowKit
set_option linter.unusedVariables false
set_option linter.unusedSimpArgs false
set_option maxRecDepth 20000

theorem keep_on {S : Nat → Prop} {a b c : World} (h : Kept NoB a b) (k : Kept S b c) (hs : ∀ i, i < a.heap.size → S i → False) : Kept NoB a c :=
  ⟨k.os.trans h.os, k.tape.trans h.tape, k.output.trans h.output, Nat.le_trans h.size k.size, fun i hi _ => (k.block i (Nat.lt_of_lt_of_le hi h.size) (hs i hi)).trans (h.block i hi id)⟩
def NewB (w W : World) : Nat → Prop := fun k => w.heap.size ≤ k ∧ k < W.heap.size
structure FsOwn (w W : World) (f : Nat) (T : FsP) : Prop where
  st : FsSt (NewB w W) W f T
  keep : Kept NoB w W
theorem FsOwn.made {w W : World} {f : Nat} {T : FsP} (h : FsSt (Grow NoB w W) W f T) (hk : Kept NoB w W) : FsOwn w W f T :=
  ⟨h.mono (fun k e => by rcases e with e | e; exact e.elim; exact e), hk⟩
theorem FsOwn.kept {w W W' : World} {f : Nat} {T : FsP} (h : FsOwn w W f T) (hk : Kept NoB W W') : FsOwn w W' f T :=
  ⟨(h.st.keptNo hk).mono (fun k e => ⟨e.1, Nat.lt_of_lt_of_le e.2 hk.size⟩), h.keep.trans hk⟩
theorem FsOwn.step {w W W' : World} {f : Nat} {T T' : FsP} (h : FsOwn w W f T) (hs : FsSt (Grow (NewB w W) W W') W' f T') (hk : Kept (NewB w W) W W') : FsOwn w W' f T' :=
  ⟨hs.mono (fun k e => by
    have h1 := hk.size
    have h2 := h.keep.size
    rcases e with e | e
    · exact ⟨e.1, Nat.lt_of_lt_of_le e.2 h1⟩
    · exact ⟨by omega, e.2⟩), keep_on h.keep hk (fun i hi e => by have := e.1; omega)⟩
theorem FsOwn.lt {w W : World} {f : Nat} {T : FsP} (h : FsOwn w W f T) : f < W.heap.size := by
  obtain ⟨L, B, mb, h1⟩ := h.st
  exact obj_lt h1.obj
end Go.Proofs.YtjjgadanobeamaaDoor

namespace Go.Proofs.YtjjgadanobeamaaDoor
open Go.RowKit
set_option linter.unusedVariables false
set_option linter.unusedSimpArgs false
set_option maxRecDepth 20000

theorem seen_ab (W : World) : (binOp .eql 61 (.agg #[.string { data := #[97, 47, 98] }, .int .i64 3]) (.agg #[.string { data := #[97, 47, 98] }, .int .i64 3])).run Tryd.prog W = .ok (.bool true) W := by kernel_rfl
set_option maxHeartbeats 4000000 in
theorem awake14_any (w : World) : Calls Tryd.prog 8 #[] w fun e w' => e = .returned (.bool true) ∧ Kept NoB w w' := by
  have HNew := Lib.hid (new_any 10 w (by decide))
  go_enter Tryd.func8, Tryd.ntmps8
  go_wp2_with fail
  refine HNew.out.mono ?_
  rintro e w1 ⟨f, rfl, hf1, hk1⟩
  have F1 := Lib.hid (FsOwn.made hf1 hk1)
  clear hf1 hk1 HNew
  have HM1 : Hid (Calls Tryd.prog 5 #[.pointer (some ⟨f, 0, none⟩), .int .i64 1, .string { data := #[97] }, .agg #[.int .i64 6, .int .i64 0, .int .i64 0, .int .i64 0, .int .i64 0, .string { data := #[] }, .int .i64 0, .int .i64 0, .int .i64 0, .int .i64 0, .int .i64 0]] w1 fun e w' => e = .returned (.tuple #[.int .i64 2, .int .i64 0]) ∧ Hid (FsOwn w w' f bk1)) := Lib.hid (by
    have := make_any F1.out.st 1 (by decide) [97] (by decide) dir0V (by decide) (by decide)
    refine Calls.mono this ?_
    rintro e w' ⟨rfl, h1, h2⟩
    refine ⟨by rw [bk_make1], Lib.hid (F1.out.step h1 h2)⟩)
  go_wp2_with fail
  refine HM1.out.mono ?_
  rintro e w2 ⟨rfl, F2⟩
  clear HM1
  have HM2 : Hid (Calls Tryd.prog 5 #[.pointer (some ⟨f, 0, none⟩), .int .i64 2, .string { data := #[98] }, .agg #[.int .i64 3, .int .i64 0, .int .i64 0, .int .i64 0, .int .i64 0, .string { data := #[46, 46] }, .int .i64 0, .int .i64 0, .int .i64 0, .int .i64 0, .int .i64 0]] w2 fun e w' => e = .returned (.tuple #[.int .i64 3, .int .i64 0]) ∧ Hid (FsOwn w w' f bk2)) := Lib.hid (by
    have := make_any F2.out.st 2 (by decide) [98] (by decide) (symV [46, 46]) (by decide) (by rw [bk_clock.1]; decide)
    refine Calls.mono this ?_
    rintro e w' ⟨rfl, h1, h2⟩
    refine ⟨by rw [bk_make2], Lib.hid (F2.out.step h1 h2)⟩)
  go_wp2_with fail
  refine HM2.out.mono ?_
  rintro e w3 ⟨rfl, F3⟩
  clear HM2
  have HAl := Lib.hid (all_any F3.out.st (by rw [bk_clock.2.1]; decide) 2 (by decide) 1 (by decide) bk_deep (by rw [bk_all]; decide))
  go_wp2_with fail
  refine HAl.out.mono ?_
  rintro e w4 ⟨a, l, c, rfl, HS⟩
  rw [bk_all] at HS
  obtain rfl : l = 2 := HS.out.len
  obtain ⟨g, rfl, s1, s2⟩ := HS.out.at 1 (by decide)
  have hk4 := HS.out.kept
  have F4 := Lib.hid (F3.out.kept hk4)
  clear HAl HS F3
  have HDn : Hid (∀ W, W = w4.alloc (.cells #[.string { data := #[97] }, .string { data := #[98] }] 9) → Calls Tryd.prog 17 #[.pointer (some ⟨f, 0, none⟩), .int .i64 1, .slice (some ⟨w4.heap.size, 0, none⟩) 2 2] W fun e w' => e = .returned (.tuple #[.int .i64 3, .int .i64 0]) ∧ Kept NoB w4 w') := Lib.hid (fun W hW => by
    have hkW : Kept NoB w4 W := by rw [hW]; exact (Kept.refl NoB w4).alloc _
    have := down_any (F4.out.kept hkW).st (by rw [bk_clock.2.2]; decide) 1 ⟨by decide, by decide⟩ (some ⟨w4.heap.size, 0, none⟩) 2 (w4.heap.size + 1) [[97], [98]] (by rw [hW]; exact row_two w4 [97] [98]) (by decide) (by decide)
    rw [bk_down] at this
    refine Calls.mono this ?_
    rintro e w' ⟨rfl, h1⟩
    exact ⟨rfl, hkW.trans h1⟩)
  go_wp2_with fail
  refine (HDn.out _ rfl).mono ?_
  rintro e w5 ⟨rfl, hk5⟩
  have F5 := Lib.hid (F4.out.kept hk5)
  have t1 := hk5.cell s1
  have t2 := hk5.cell s2
  clear HDn F4 s1 s2 hk5
  have HFo : Hid (Calls Tryd.prog 7 #[.pointer (some ⟨f, 0, none⟩), .int .i64 1, .string { data := #[97, 47, 98] }] w5 fun e w' => e = .returned (.tuple #[.int .i64 1, .int .i64 0]) ∧ Kept NoB w5 w') := Lib.hid (follow_any F5.out.st (by rw [bk_clock.2.2]; decide) 1 ⟨by decide, by decide⟩ [97, 47, 98] (by decide) (by decide) (by decide) 20 (by decide) 1 0 bk_follow)
  go_wp2_with fail
  refine HFo.out.mono ?_
  rintro e w6 ⟨rfl, hk6⟩
  have F6 := Lib.hid (F5.out.kept hk6)
  have u1 : w6.cell? ⟨g, 2, none⟩ = some (.string { data := #[97, 47, 98] }) := hk6.cell t1
  have u2 : w6.cell? ⟨g, 3, none⟩ = some (.int .i64 3) := hk6.cell t2
  have hsq := seen_ab
  clear HFo F5 t1 t2 hk6
  go_wp2
  go_ret
  exact ⟨rfl, F6.out.keep⟩
end Go.Proofs.YtjjgadanobeamaaDoor

namespace Go.Proofs.YtjjgadanobeamaaDoor
open Go.RowKit Go.Lib
set_option linter.unusedVariables false
set_option linter.unusedSimpArgs false

theorem dec_lit (k : Nat) (hk : k < 10) : (⟨#[48, 49, 50, 51, 52, 53, 54, 55, 56, 57]⟩ : ByteArray).extract k (k + 1) = ⟨([UInt8.ofNat (48 + k)]).toArray⟩ := by
  have hc : k = 0 ∨ k = 1 ∨ k = 2 ∨ k = 3 ∨ k = 4 ∨ k = 5 ∨ k = 6 ∨ k = 7 ∨ k = 8 ∨ k = 9 := by omega
  rcases hc with rfl | rfl | rfl | rfl | rfl | rfl | rfl | rfl | rfl | rfl <;> decide +kernel
theorem itoa_parts (n : Int) (h0 : -9223372036854775808 ≤ n) (h1 : n ≤ 9223372036854775807) :
    (n < 0 ∧ ∃ U : Nat, n = -(U : Int) ∧ 1 ≤ U ∧ U ≤ 9223372036854775808 ∧ itoa n = [45] ++ decDigits U) ∨ (¬ n < 0 ∧ ∃ U : Nat, n = (U : Int) ∧ U ≤ 9223372036854775807 ∧ itoa n = [] ++ decDigits U) := by
  by_cases h : n < 0
  · refine .inl ⟨h, n.natAbs, by omega, by omega, by omega, ?_⟩
    conv => lhs; rw [show n = -((n.natAbs : Nat) : Int) by omega]
    exact itoa_neg _ (by omega)
  · refine .inr ⟨h, n.toNat, by omega, by omega, ?_⟩
    conv => lhs; rw [show n = ((n.toNat : Nat) : Int) by omega]
    exact itoa_nonneg _

set_option maxRecDepth 20000 in
set_option maxHeartbeats 2000000 in
theorem rDigits_any (n : Int) (w : World) (h0 : -9223372036854775808 ≤ n) (h1 : n ≤ 9223372036854775807) :
    Calls Tryd.prog 6 #[.int .i64 n] w fun e w' => e = .returned (.string ⟨(itoa n).toArray⟩) ∧ w = w' := by
  have hcat : ∀ (a b : List UInt8), (⟨a.toArray⟩ : ByteArray) ++ ⟨b.toArray⟩ = ⟨(a ++ b).toArray⟩ := ByteArray.mk_append_mk
  have Cat := Lib.hid hcat
  clear hcat
  have hstep : ∀ (sg : List UInt8) (U u : Nat) (l : List UInt8), decDigits U = decDigits u ++ l → ¬ u < 10 → decDigits U = decDigits (u / 10) ++ (UInt8.ofNat (48 + u % 10) :: l) := by
    intro sg U u l h hu
    rw [h, decDigits_ge hu, List.append_assoc]; rfl
  have HStep := Lib.hid hstep
  clear hstep
  obtain ⟨R, hR⟩ : ∃ R, R = (⟨(itoa n).toArray⟩ : ByteArray) := ⟨_, rfl⟩
  rw [← hR]
  have hmain2 : ∀ (U u : Nat) (l : List UInt8), U ≤ 9223372036854775808 → decDigits U = decDigits u ++ l → l.length ≤ 25 := by
    intro U u l hU h
    have h2 := decDigits_len 19 U (by decide) (by omega)
    rw [h, List.length_append] at h2
    omega
  have Main := Lib.hid hmain2
  clear hmain2
  rcases itoa_parts n h0 h1 with ⟨hneg, U, rfl, hU1, hU2, hit⟩ | ⟨hneg, U, rfl, hU2, hit⟩
  all_goals
    rw [hit, ← Cat.out] at hR
    have HIt := Lib.hid hR
    clear hit h0 h1 hR
    first
      | have hw1 : IntKind.u64.wrap (-(U : Int)) = 18446744073709551616 - (U : Int) := by rw [IntKind.wrap_u64]; omega
      | have hw1 : IntKind.u64.wrap (U : Int) = (U : Int) := by rw [IntKind.wrap_u64]; omega
    have hw2 : IntKind.u64.wrap (-(18446744073709551616 - (U : Int))) = (U : Int) := by rw [IntKind.wrap_u64]; omega
    go_enter Tryd.func6, Tryd.ntmps6
    go_wp2
    go_loopw [3, 4, 6] (fun v3 v4 v6 wr => ∃ (u : Nat) (l : List UInt8), v3 = .int .u64 (u : Int) ∧ v4 = .string ⟨l.toArray⟩ ∧ Hid (decDigits U = decDigits u ++ l) ∧ u ≤ U ∧ w = wr) (fun v3 _ _ _ => (RowKit.intOf v3).toNat)
    case atStart => exact ⟨U, [], rfl, rfl, by rw [List.append_nil]; rfl, Nat.le_refl _, rfl⟩
    case round =>
      obtain ⟨u, l, rfl, rfl, HE, huU, rfl⟩ := hrel
      have hll := Main.out U u l (by omega) HE.out
      have hzl : (⟨l.toArray⟩ : ByteArray).size ≤ 25 := hll
      by_cases h9 : 9 < u
      · have hk10 : u % 10 < 10 := by omega
        have hlit := dec_lit (u % 10) hk10
        have hcat := Cat.out [UInt8.ofNat (48 + u % 10)] l
        have hz1 : (⟨([UInt8.ofNat (48 + u % 10)]).toArray⟩ : ByteArray).size = 1 := rfl
        have HS := Lib.hid (HStep.out [] U u l HE.out (by omega))
        obtain ⟨k, hk⟩ : ∃ k, k = u % 10 := ⟨_, rfl⟩
        rw [← hk] at hlit hcat hz1 hk10 HS
        have hrem : (u : Int) % 10 = (k : Int) := by omega
        obtain ⟨u2, hu2⟩ : ∃ u2, u2 = u / 10 := ⟨_, rfl⟩
        have hdiv : (u : Int) / 10 = (u2 : Int) := by omega
        rw [← hu2] at HS
        have hu3 : u2 < u := by omega
        have hgt : (9 : Int) < (u : Int) := by omega
        have HCat := Lib.hid hcat
        clear hk hcat hu2
        generalize (⟨([UInt8.ofNat (48 + k)]).toArray⟩ : ByteArray) = t1 at hlit hz1 HCat
        have HL := Lib.hid hll
        generalize hst : (⟨l.toArray⟩ : ByteArray) = st at hzl HCat ⊢
        clear hst
        go_wp2
        go_roundw
        case rel => exact ⟨u2, UInt8.ofNat (48 + k) :: l, by first | rfl | go_num, by rw [HCat.out]; rfl, HS.out, by omega, trivial⟩
        case measure => simp [RowKit.intOf]; omega
      · have hu10 : u < 10 := by omega
        have hlit := dec_lit u hu10
        have hgt : ¬ (9 : Int) < (u : Int) := by omega
        have hz1 : (⟨([UInt8.ofNat (48 + u)]).toArray⟩ : ByteArray).size = 1 := rfl
        have hfin := HIt.out
        rw [HE.out, decDigits_lt hu10, ← Cat.out] at hfin
        have HFin := Lib.hid hfin
        clear hfin
        generalize (⟨([UInt8.ofNat (48 + u)]).toArray⟩ : ByteArray) = t1 at hlit hz1 HFin
        generalize hst : (⟨l.toArray⟩ : ByteArray) = st at hzl HFin ⊢
        clear hst
        have hu64 : (u : Int) ≤ 9 := by omega
        go_wp2
        go_ret
        have hf := HFin.out
        refine ⟨?_, rfl⟩
        rw [hf, ← ByteArray.append_assoc]
        rfl

end Go.Proofs.YtjjgadanobeamaaDoor

namespace Go.Proofs.YtjjgadanobeamaaDoor
open Go.RowKit
set_option linter.unusedVariables false

theorem i64_mask (n : Int) (k : Nat) (hk : k ≤ 62) : bits .and .i64 n ((2 ^ k - 1 : Nat) : Int) = n % ((2 ^ k : Nat) : Int) := by
  have h1 : 1 ≤ 2 ^ k := Nat.one_le_two_pow
  have h2 : 2 ^ k ≤ 2 ^ 62 := pow_le_pow2 hk
  have ha : (BitVec.ofInt 64 ((2 ^ k - 1 : Nat) : Int)).toNat = 2 ^ k - 1 := by
    rw [BitVec.ofInt_natCast, BitVec.toNat_ofNat]; exact Nat.mod_eq_of_lt (by omega)
  show IntKind.i64.wrap ((BitVec.ofInt 64 n &&& BitVec.ofInt 64 ((2 ^ k - 1 : Nat) : Int)).toNat : Int) = _
  rw [BitVec.toNat_and, ha, Nat.and_two_pow_sub_one_eq_mod]
  have hm : (((BitVec.ofInt 64 n).toNat : Nat) : Int) = n % 18446744073709551616 := by
    rw [BitVec.toNat_ofInt]
    omega
  have hlt : (BitVec.ofInt 64 n).toNat % 2 ^ k < 2 ^ k := Nat.mod_lt _ (by omega)
  rw [IntWalk.i64_in _ (by omega), Int.natCast_emod, hm]
  exact Int.emod_emod_of_dvd n (Int.ofNat_dvd.2 (show 2 ^ k ∣ 2 ^ 64 from Nat.pow_dvd_pow 2 (by omega)))

end Go.Proofs.YtjjgadanobeamaaDoor
