/-
  Strings of numbers; the document's own Rev.
-/
import Derived.Test.YtokdlmpnokmniaaClone
import Derived.Test.YtokdlmpnokmniaaRevN
import Derived.Laws.BytesArg
import Derived.Deep.DeepCutAuto
namespace Go.Proofs.Ytokdlmpnokmniaa
open Go.RowKit
set_option linter.unusedVariables false

def nats (bs : List Int) : List Nat := bs.map Int.toNat
theorem and1_u32 (r : Nat) (h : r < 4294967296) : bits .and .u32 (r : Int) 1 = ((r % 2 : Nat) : Int) := by
  have := u32_and_nat r 1 h (by decide)
  rw [nat_mask1] at this
  exact this
def bytesOf (s : ByteArray) : List Nat := s.data.toList.map UInt8.toNat
theorem bytesOf_lt (s : ByteArray) : ∀ x ∈ bytesOf s, x < 256 := by
  intro x hx
  obtain ⟨b, _, rfl⟩ := List.mem_map.1 hx
  exact b.toNat_lt
theorem bytesOf_nums (bs : List Int) (h : AllB bs) : bytesOf (strOfNums bs) = nats bs := by
  unfold bytesOf nats
  rw [strOfNums_data, List.map_map]
  apply List.map_congr_left
  intro b hb
  have := h b hb
  simp
  omega
theorem shl1_or (o b : Nat) (ho : o < 2147483648) (hb : b < 2) : bits .or .u32 ((o : Int) * 2 % 4294967296) (b : Int) = ((2 * o + b : Nat) : Int) := by
  have e : ((o : Int) * 2 % 4294967296) = ((o * 2 : Nat) : Int) := by omega
  rw [e, u32_or_nat _ _ (by omega) (by omega), Nat.or_comm, show o * 2 = o * 2 ^ 1 from by omega, or_shift b o 1 (by omega)]
  congr 1; omega

set_option maxHeartbeats 2000000 in
theorem refRev_any (v n : Nat) (w : World) (hv : v < 4294967296) (hn : n ≤ 32) :
    Calls Try.prog 35 #[.int .u32 v, .int .i64 n] w fun e w' => e = .returned (.int .u32 (revN n v : Nat)) ∧ w = w' := by
  go_enter Try.func35, Try.ntmps35
  go_wp2
  go_loop [5, 6] (fun o i => ∃ k : Nat, k ≤ n ∧ i = .int .i64 k ∧ o = .int .u32 (revN k v : Nat)) (fun _ i => n - (intOf i).toNat)
  case atStart => exact ⟨0, by omega, rfl, rfl⟩
  case round =>
    obtain ⟨k, hk, rfl, rfl⟩ := hrel
    by_cases hlt : k < n
    · have ho : revN k v < 2147483648 := Nat.lt_of_lt_of_le (revN_lt k v) (show 2 ^ k ≤ 2 ^ 31 from pow_le_pow2 (by omega))
      have HS : Hid (revN (k + 1) v = 2 * revN k v + v / 2 ^ k % 2) := rfl
      generalize revN k v = o at ho HS ⊢
      obtain ⟨b, hb⟩ : ∃ b, b = v / 2 ^ k % 2 := ⟨_, rfl⟩
      have hb2 : b < 2 := by omega
      have hv2 : v / 2 ^ k < 4294967296 := Nat.lt_of_le_of_lt (Nat.div_le_self _ _) hv
      have hbit : bits .and .u32 ((v : Int) / 2 ^ k) 1 = b := by
        have := and1_u32 (v / 2 ^ k) hv2
        rw [← hb] at this
        rw [← this]; push_cast; rfl
      have hor := shl1_or o b ho hb2
      have HB := Lib.hid hb; clear hb hv2 ho
      generalize hx : 2 * o + b = x at hor
      have HX := Lib.hid hx; clear hx
      go_wp2
      go_round
      case rel => exact ⟨k + 1, by omega, by go_num, by rw [HS.out, ← HB.out, HX.out]⟩
      case measure => simp [intOf]; omega
    · have hkn : k = n := by omega
      subst hkn
      go_wp2
      go_ret
      exact ⟨rfl, rfl⟩
theorem refRev_no (v : Nat) (n : Int) (w : World) (hn : n < 0 ∨ 32 < n) :
    Calls Try.prog 35 #[.int .u32 v, .int .i64 n] w fun e w' => e = .returned (.int .u32 0) ∧ w = w' := by
  go_enter Try.func35, Try.ntmps35
  rcases hn with h | h
  · go_wp2
    go_ret
    exact ⟨rfl, rfl⟩
  · have h0 : ¬ n < 0 := by omega
    go_wp2
    go_ret
    exact ⟨rfl, rfl⟩
end Go.Proofs.Ytokdlmpnokmniaa
