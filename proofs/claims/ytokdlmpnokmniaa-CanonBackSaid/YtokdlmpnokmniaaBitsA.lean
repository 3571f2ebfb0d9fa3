/-
  The reader of bits: a contract for each of its methods.
-/
import Derived.Test.YtokdlmpnokmniaaRows
import Derived.Test.YtokdlmpnokmniaaBase
import Derived.Test.YtokdlmpnokmniaaNum
import Derived.Deep.DeepCutAuto
namespace Go.Proofs.Ytokdlmpnokmniaa
open Go.RowKit
set_option linter.unusedVariables false

set_option maxHeartbeats 400000 in
theorem lowest_any (n : Int) (w : World) (h0 : 0 ≤ n) (h1 : n ≤ 32) :
    Calls Try.prog 39 #[.int .i64 n] w fun e w' => e = .returned (.int .u64 (IntKind.u64.wrap (IntKind.u64.wrap (2 ^ n.toNat) - 1))) ∧ w = w' := by
  go_enter Try.func39, Try.ntmps39
  go_wp2
  go_ret
  exact ⟨rfl, rfl⟩

/-- A reader: its bytes, in a row of its own, and how many bits were taken. -/
def Rdr (w : World) (R : Nat) (ao : Option Addr) (cap : Nat) (bs : List Int) (at_ : Nat) : Prop :=
  w.heap[R]? = some (.cells #[.slice ao bs.length cap, .int .i64 at_] 70 (0, 0)) ∧ w.ownsRow 0 5 1 (.slice ao bs.length cap) bs.length (bs.map (.int .u8)) ∧
  bs.length ≤ 1000000000000000 ∧ at_ ≤ 8 * bs.length ∧ ∀ b ∈ bs, 0 ≤ b ∧ b < 256

set_option maxHeartbeats 400000 in
theorem left_any (w : World) (R : Nat) (ao : Option Addr) (cap : Nat) (bs : List Int) (at_ : Nat) (h : Rdr w R ao cap bs at_) :
    Calls Try.prog 32 #[.pointer (some ⟨R, 0, none⟩)] w fun e w' => e = .returned (.int .i64 (8 * bs.length - at_)) ∧ Kept NoB w w' := by
  obtain ⟨ho, hr, hl, ha, hb⟩ := h
  have c0 : w.cell? ⟨R, 0, none⟩ = some (.slice ao bs.length cap) := by simpa using obj_cell ho 0
  have c1 : w.cell? ⟨R, 1, none⟩ = some (.int .i64 at_) := by simpa using obj_cell ho 1
  clear ho hr hb
  go_enter Try.func32, Try.ntmps32
  go_wp2
  go_quiet (fail)
  go_wp2
  go_ret
  exact ⟨rfl, (Kept.refl _ _).drewN _⟩

def min3 (n L : Int) : Int := if L < (if 32 < (if n < 0 then 0 else n) then 32 else if n < 0 then 0 else n) then L else if 32 < (if n < 0 then 0 else n) then 32 else if n < 0 then 0 else n


theorem min3_bd (n L : Int) (k : Nat) (hk : min3 n L = k) (hL : 0 ≤ L) : k ≤ 32 ∧ (k : Int) ≤ L ∧ (k : Int) ≤ max n 0 := by unfold min3 at hk; omega

set_option maxHeartbeats 1000000 in
theorem peek_any (w : World) (R : Nat) (ao : Option Addr) (cap : Nat) (bs : List Int) (at_ : Nat) (n : Int) (h : Rdr w R ao cap bs at_) (k : Nat) (hk : min3 n (8 * bs.length - at_) = k) :
    Calls Try.prog 30 #[.pointer (some ⟨R, 0, none⟩), .int .i64 n] w fun e w' => e = .returned (.tuple #[.int .u32 (bitsAt bs at_ k : Nat), .int .i64 k]) ∧ Kept NoB w w' := by
  have hh := h.2.2.2.1
  have hkk := min3_bd _ _ _ hk (by omega)
  have HK := Lib.hid hk; clear hk
  have H := Lib.hid h; clear h
  go_enter Try.func30, Try.ntmps30
  go_upto_region 1 with fail
  go_cut [6] (fun s wx => s = .int .i64 k ∧ Kept NoB w wx)
  case first =>
    go_wp2_with (go_at_call 32; refine (left_any _ _ _ _ _ _ H.out).mono ?_; rintro e w' ⟨rfl, hk1⟩)
    all_goals go_meet
    all_goals exact ⟨by have hq := HK.out; congr 1; unfold min3 at hq; omega, hk1⟩
  case rest =>
    obtain ⟨rfl, hk1⟩ := hcut
    by_cases h0 : k = 0
    · subst h0
      go_wp2
      go_ret2
      exact ⟨by simp [bitsAt], hk1⟩
    · have hz : ((k : Int) == 0) = false := by simp; omega
      obtain ⟨ho, hr, hl, ha, hb⟩ := H.out
      have ho := hk1.obj ho (fun h => h)
      have hr := hk1.row hr (fun _ _ h => h)
      have c0 : wc.cell? ⟨R, 0, none⟩ = some (.slice ao bs.length cap) := by simpa using obj_cell ho 0
      have c1 : wc.cell? ⟨R, 1, none⟩ = some (.int .i64 at_) := by simpa using obj_cell ho 1
      have HB := Lib.hid hb; clear hb
      clear ho
      go_upto_region 4 with fail
      go_cut [7, 8] (fun s t wx => s = .int .i64 (at_ / 8 : Nat) ∧ t = .int .i64 (at_ % 8 : Nat) ∧ ∃ n, wx = wc.drewN n)
      case first =>
        have q1 : IntKind.i64.wrap ((at_ : Int) / 8) = (at_ : Int) / 8 := IntWalk.i64_in _ (by omega)
        have q2 : wrap64 ((at_ : Int) / 8) = (at_ : Int) / 8 := IntWalk.wrap64_in _ (by omega)
        go_quiet (fail)
        go_wp2
        go_meet
        exact ⟨by go_num, by go_num, _, rfl⟩
      case rest =>
        obtain ⟨rfl, rfl, nd, hw⟩ := hcut
        obtain ⟨f, hf⟩ : ∃ f, f = at_ / 8 := ⟨_, rfl⟩
        obtain ⟨t, ht⟩ : ∃ t, t = at_ % 8 := ⟨_, rfl⟩
        rw [← hf, ← ht]
        have hft : at_ = 8 * f + t := by omega
        have ht8 : t < 8 := by omega
        have hlen : 8 * f + t + k ≤ 8 * bs.length := by omega
        clear hf ht
        subst hft
        subst hw
        have hrd : (wc.drewN nd).ownsRow 0 5 1 (.slice ao bs.length cap) bs.length (bs.map (.int .u8)) := hr
        obtain ⟨wd, hwd⟩ : ∃ wd, wd = wc.drewN nd := ⟨_, rfl⟩
        have c0 : wd.cell? ⟨R, 0, none⟩ = some (.slice ao bs.length cap) := by rw [hwd]; exact c0
        have hk1 : Kept NoB w wd := by rw [hwd]; exact hk1.drewN _
        rw [← hwd] at hrd ⊢
        clear hwd
        obtain ⟨g, rfl⟩ : ∃ g, ao = some ⟨g, 0, none⟩ := by
          rcases hrd.2 with ⟨_, hz⟩ | ⟨g, c, cur, hv, _⟩
          · omega
          · simp at hv; exact ⟨g, hv.1⟩
        have hcells : ∀ i, i < bs.length → wd.cell? ⟨g, i, none⟩ = some (.int .u8 (bs.getD i 0)) := fun i hi => by
          rw [hrd.cellAt i (by omega)]; simp [List.getD, hi]
        have HC := Lib.hid hcells; clear hcells hrd hr
        have hlm : 8 * bs.length ≤ 8000000000000000 := by omega
        go_wp2
        go_loop [9, 33] (fun v i => ∃ j : Nat, 8 * j < t + k + 8 ∧ i = .int .i64 j ∧ v = .int .u64 (num ((bs.drop f).take j) : Nat)) (fun _ i => (100 - intOf i).toNat)
        case atStart => exact ⟨0, by omega, rfl, by simp [num]⟩
        case round =>
          obtain ⟨j, hj, rfl, rfl⟩ := hrel
          by_cases hlt : 8 * j < t + k
          · have hc := HC.out (f + j) (by omega)
            have hbd := HB.out
            have hg := AllB.getD hbd (f + j)
            generalize hz : bs.getD (f + j) 0 = z at hc hg
            have HZ := Lib.hid hz; clear hz
            clear hbd
            go_wp2
            go_round
            case rel =>
              exact ⟨j + 1, by omega, by go_num, by rw [or_step bs HB.out f j (by omega) (by omega) z HZ.out]⟩
            case measure => simp [intOf]; omega
          · have hnl : ¬ ((j : Int) < ((t : Int) + k + 7) / 8) := by omega
            go_wp2
            have hj2 : t + k ≤ 8 * j := by omega
            have q1 := wrap_pow k (by omega)
            have hlt2 : num ((bs.drop f).take j) < 18446744073709551616 := num_take_lt _ (AllB.drop HB.out f) j (by omega)
            have HL := Lib.hid hlt2; clear hlt2
            go_quiet ((go_at_call 39; exact Calls.quiet_of_same ((lowest_any _ _ (by omega) (by omega)).mono fun _ _ h => ⟨h.1, h.2.symm⟩)))
            go_wp2
            go_ret2
            refine ⟨?_, hk1.drewN _⟩
            rw [and_mask _ t k HL.out (by omega), bitsAt_window bs HB.out f t k j hj2]
            rfl
end Go.Proofs.Ytokdlmpnokmniaa
