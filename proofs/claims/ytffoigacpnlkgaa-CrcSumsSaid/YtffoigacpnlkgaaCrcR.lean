/-
  The document's own check, bit by bit.
-/
import Derived.Test.YtffoigacpnlkgaaAwake2
import Derived.Laws.BytesArg
namespace Go.Proofs.Ytffoigacpnlkgaa
open Go.RowKit
set_option linter.unusedVariables false

def bytesOf (s : ByteArray) : List Nat := s.data.toList.map UInt8.toNat
theorem bytesOf_lt (s : ByteArray) : ∀ x ∈ bytesOf s, x < 256 := by
  intro x hx
  obtain ⟨b, _, rfl⟩ := List.mem_map.1 hx
  exact b.toNat_lt
theorem bytesOf_nums (bs : List Int) (h : AllB bs) : bytesOf (strOfNums bs) = nats bs := by
  unfold bytesOf nats
  rw [strOfNums_data, List.map_map]
  apply List.map_congr_left
  intro b hb
  have := h b hb
  simp
  omega
theorem regOf_succ' (r : Nat) (s : ByteArray) (j : Nat) (hj : j < s.size) : regOf r ((bytesOf s).take (j + 1)) = upd (regOf r ((bytesOf s).take j)) (s[j]).toNat := by
  have hl : j < (bytesOf s).length := by simpa [bytesOf] using hj
  rw [List.take_succ_eq_append_getElem hl, regOf_append]
  simp [regOf, bytesOf]
  rfl

set_option maxHeartbeats 2000000 in
theorem refUpdate_any (c : Nat) (s : ByteArray) (w : World) (hc : c < 4294967296) (hm : s.size ≤ maxLen) :
    Calls Try.prog 42 #[.int .u32 c, .string s] w fun e w' => e = .returned (.int .u32 (crcOf c (bytesOf s) : Nat)) ∧ w = w' := by
  unfold maxLen at hm
  have e0 := flip_u32 c hc
  clear hc
  go_enter Try.func42, Try.ntmps42
  go_wp2
  clear e0
  go_loop [0, 5] (fun r i => ∃ j : Nat, j ≤ s.size ∧ i = .int .i64 j ∧ r = .int .u32 (regOf (flip c) ((bytesOf s).take j) : Nat)) (fun _ i => s.size - (intOf i).toNat)
  case atStart => exact ⟨0, by omega, rfl, by simp [regOf]⟩
  case round =>
    obtain ⟨j, hj, rfl, rfl⟩ := hrel
    by_cases hlt : j < s.size
    · have hs := regOf_succ' (flip c) s j hlt
      have hrl : regOf (flip c) ((bytesOf s).take j) < 4294967296 := regOf_lt _ _ (flip_lt c) (fun x hx => bytesOf_lt s x (List.mem_of_mem_take hx))
      have hz256 : (s[j]).toNat < 256 := (s[j]).toNat_lt
      have hu := upd_steps (regOf (flip c) ((bytesOf s).take j)) (s[j]).toNat hz256
      have HS : Hid (regOf (flip c) ((bytesOf s).take (j + 1)) = steps 8 (regOf (flip c) ((bytesOf s).take j) ^^^ (s[j]).toNat)) := hs.trans hu
      clear hs hu
      generalize regOf (flip c) ((bytesOf s).take j) = r at hrl HS ⊢
      have hx32 : r ^^^ (s[j]).toNat < 4294967296 := Nat.xor_lt_two_pow (n := 32) hrl (by omega)
      have ex : bits .xor .u32 (r : Int) ((s[j]).toNat : Int) = ((r ^^^ (s[j]).toNat : Nat) : Int) := u32_xor_nat r _ hrl (by omega)
      have HX := Lib.hid hx32; clear hx32 hrl
      generalize hxx : r ^^^ (s[j]).toNat = x at HX HS ex
      clear hxx
      go_wp2
      clear ex hz256
      go_loop [0, 6] (fun r i => ∃ k : Nat, k ≤ 8 ∧ i = .int .i64 k ∧ r = .int .u32 (steps k x : Nat)) (fun _ i => 8 - (intOf i).toNat)
      case atStart => exact ⟨0, by omega, rfl, rfl⟩
      case round =>
        obtain ⟨k, hk, rfl, rfl⟩ := hrel
        by_cases hk8 : k < 8
        · have hl := steps_lt k x HX.out
          have HS2 : Hid (steps (k + 1) x = step1 (steps k x)) := rfl
          generalize steps k x = r2 at hl HS2 ⊢
          have e3 : bits .xor .u32 ((r2 : Int) / 2) 3988292384 = ((r2 / 2 ^^^ poly : Nat) : Int) := by rw [half_int]; exact xorP_u32 (r2 / 2) (by omega)
          by_cases ho : r2 % 2 = 1
          · have E : Hid (step1 r2 = r2 / 2 ^^^ poly) := by show step1 r2 = _; unfold step1; rw [if_pos ho]
            have e1 : bits .and .u32 (r2 : Int) 1 = 1 := by rw [and1_u32 r2 hl, ho]; rfl
            clear ho hl
            go_wp2
            go_round
            case rel => exact ⟨k + 1, by omega, by go_num, by rw [HS2.out, E.out]⟩
            case measure => simp [intOf]; omega
          · have E : Hid (step1 r2 = r2 / 2) := by show step1 r2 = _; unfold step1; rw [if_neg ho]
            have h0 : r2 % 2 = 0 := by omega
            have e1 : bits .and .u32 (r2 : Int) 1 = 0 := by rw [and1_u32 r2 hl, h0]; rfl
            clear ho h0 hl
            go_wp2
            go_round
            case rel => exact ⟨k + 1, by omega, by go_num, by rw [HS2.out, E.out]; go_num⟩
            case measure => simp [intOf]; omega
        · have hk9 : k = 8 := by omega
          have HK9 := Lib.hid hk9; clear hk9
          go_wp2
          go_round
          case rel => exact ⟨j + 1, by omega, by go_num, by rw [HS.out, HK9.out]⟩
          case measure => simp [intOf]; omega
    · have hlt2 : regOf (flip c) ((bytesOf s).take j) < 4294967296 := regOf_lt _ _ (flip_lt c) (fun x hx => bytesOf_lt s x (List.mem_of_mem_take hx))
      have e2 := flip_u32 _ hlt2
      have hfin : crcOf c (bytesOf s) = flip (regOf (flip c) ((bytesOf s).take j)) := by
        unfold crcOf
        rw [List.take_of_length_le (by simp [bytesOf]; omega)]
      have HF := Lib.hid hfin; clear hfin
      generalize regOf (flip c) ((bytesOf s).take j) = r at e2 HF hlt2 ⊢
      clear hlt2
      go_wp2
      go_ret
      exact ⟨by rw [HF.out]; rfl, rfl⟩
end Go.Proofs.Ytffoigacpnlkgaa
