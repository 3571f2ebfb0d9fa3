/-
  The document's Join.
-/
import Derived.Test.YtamoojalfpghhaaDoorSmall
namespace Go.Proofs.YtamoojalfpghhaaDoor
open Go.RowKit Go.Shelf
set_option linter.unusedVariables false
set_option linter.unusedSimpArgs false

theorem join_snoc (q : List (List UInt8)) (p : List UInt8) (h : q ≠ []) : joinB (q ++ [p]) = joinB q ++ 47 :: p := by
  cases q with
  | nil => exact absurd rfl h
  | cons x r =>
    unfold joinB
    rw [List.cons_append, Lib.join_cons, Lib.join_cons]
    simp [Lib.joinTail]
theorem take_snoc (ps : List (List UInt8)) (k : Nat) (h : k < ps.length) : ps.take (k + 1) = ps.take k ++ [ps.getD k []] := by
  rw [List.take_succ_eq_append_getElem h]; simp [List.getD, h]

set_option maxRecDepth 20000 in
set_option maxHeartbeats 2000000 in
theorem rjoin_any (ao : Option Addr) (cap B : Nat) (ps : List (List UInt8)) (w : World) (hr : RdS w B ao ps) (hl : ps.length ≤ 20) (hb : ∀ p ∈ ps, p.length ≤ 140737488351232) :
    Calls Tryd.prog 9 #[.slice ao ps.length cap] w fun e w' => e = .returned (.string (strB (joinB ps))) ∧ w' = w := by
  have HR := Lib.hid hr; have HB := Lib.hid hb
  obtain ⟨n, hn⟩ : ∃ n, n = ps.length := ⟨_, rfl⟩
  rw [← hn] at hl ⊢
  have HN := Lib.hid hn
  clear hr hb hn
  go_enter Tryd.func9, Tryd.ntmps9
  go_wp2
  go_loopw [3, 4] (fun v3 v4 wr => ∃ (k : Nat) (S : ByteArray), v3 = .string S ∧ v4 = .int .i64 (k : Int) ∧ k ≤ n ∧ S.size ≤ k * 140737488351233 ∧ Hid (S = strB (joinB (ps.take k))) ∧ wr = w) (fun _ v4 _ => n - (intOf v4).toNat)
  case atStart => exact ⟨0, ⟨#[]⟩, rfl, rfl, by omega, by decide, rfl, rfl⟩
  case round =>
    obtain ⟨k, S, rfl, rfl, hk, hS, HS, rfl⟩ := hrel
    by_cases hlt : (k : Int) < (n : Int)
    · have hkl : k < ps.length := by have := HN.out; omega
      obtain ⟨g, off, rfl, hg, hc⟩ := HR.out k hkl
      have hpl : (ps.getD k []).length ≤ 140737488351232 := HB.out _ (by
        have : ps.getD k [] = ps[k] := by simp [List.getD, hkl]
        rw [this]; exact List.getElem_mem hkl)
      have htk := take_snoc ps k hkl
      obtain ⟨p, hp⟩ : ∃ p, p = ps.getD k [] := ⟨_, rfl⟩
      rw [← hp] at hc hpl htk
      obtain ⟨X, hX⟩ : ∃ X, X = strB p := ⟨_, rfl⟩
      have hXs : X.size ≤ 140737488351232 := by rw [hX, strB_size]; exact hpl
      rw [← hX] at hc
      by_cases h0 : (0 : Int) < (k : Int)
      · have hne : ps.take k ≠ [] := by
          intro e
          have := congrArg List.length e
          rw [List.length_take, List.length_nil] at this
          omega
        have HS2 : Hid (S ++ ⟨#[47]⟩ ++ X = strB (joinB (ps.take (k + 1)))) := Lib.hid (by
          rw [htk, join_snoc _ _ hne, HS.out, hX]
          show (ByteArray.mk _ ++ ByteArray.mk [47].toArray) ++ ByteArray.mk _ = _
          rw [ByteArray.mk_append_mk, ByteArray.mk_append_mk, strB]
          simp)
        obtain ⟨S1, hS1⟩ : ∃ S1, S1 = S ++ (⟨#[47]⟩ : ByteArray) := ⟨_, rfl⟩
        have hz1 : S1.size = S.size + 1 := by rw [hS1, ByteArray.size_append]; rfl
        have had1 := fun W => run_string_add_sum (P := Tryd.prog) W S ⟨#[47]⟩ (by show S.size + 1 ≤ _; omega)
        rw [← hS1] at had1 HS2
        have had2 := fun W => run_string_add_sum (P := Tryd.prog) W S1 X (by omega)
        obtain ⟨S2, hS2⟩ : ∃ S2, S2 = S1 ++ X := ⟨_, rfl⟩
        have hz2 : S2.size ≤ (k + 1) * 140737488351233 := by rw [hS2, ByteArray.size_append]; omega
        rw [← hS2] at had2 HS2
        clear hS1 hS2 hX hp htk hpl hkl hg hne
        go_wp2
        go_roundw
        case rel => exact ⟨k + 1, S2, rfl, by go_num, by omega, hz2, HS2, trivial⟩
        case measure => simp [intOf]; omega
      · have hk0 : k = 0 := by omega
        have HS2 : Hid (S ++ X = strB (joinB (ps.take (k + 1)))) := Lib.hid (by
          rw [htk, HS.out, hX, hk0]
          show ByteArray.mk _ ++ ByteArray.mk _ = _
          rw [ByteArray.mk_append_mk, strB, List.take_zero, List.nil_append]
          unfold joinB
          rw [Lib.join_nil, Lib.join_one]; rfl)
        have had2 := fun W => run_string_add_sum (P := Tryd.prog) W S X (by omega)
        obtain ⟨S2, hS2⟩ : ∃ S2, S2 = S ++ X := ⟨_, rfl⟩
        have hz2 : S2.size ≤ (k + 1) * 140737488351233 := by rw [hS2, ByteArray.size_append]; omega
        rw [← hS2] at had2 HS2
        clear hS2 hX hp htk hpl hkl hg hk0
        go_wp2
        go_roundw
        case rel => exact ⟨k + 1, S2, rfl, by go_num, by omega, hz2, HS2, trivial⟩
        case measure => simp [intOf]; omega
    · have HF : Hid (S = strB (joinB ps)) := Lib.hid (by rw [HS.out, List.take_of_length_le (by have := HN.out; omega)])
      go_wp2
      go_ret
      exact ⟨by rw [← HF.out]; rfl, rfl⟩
