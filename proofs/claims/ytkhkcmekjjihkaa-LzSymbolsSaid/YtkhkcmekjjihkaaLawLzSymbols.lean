/-
  LzSymbols: each length, and each distance, is told by just one symbol and rest.
-/
import Derived.Test.YtkhkcmekjjihkaaAwake6
import Derived.Test.YtkhkcmekjjihkaaMask
namespace Go.Proofs.Ytkhkcmekjjihkaa
open Go.RowKit
set_option linter.unusedVariables false
set_option linter.unusedSimpArgs false

def lbx (i : Nat) : Nat := if i < 28 then lb i else 258
def lex (i : Nat) : Nat := if i < 28 then le4 i else 0
theorem lbx_bd (i : Nat) (hi : i < 29) : lbx i ≤ 258 ∧ lex i ≤ 5 ∧ (i < 28 → lbx i < lbx (i + 1)) := by
  have : ∀ i, i < 29 → lbx i ≤ 258 ∧ lex i ≤ 5 ∧ (i < 28 → lbx i < lbx (i + 1)) := by decide
  exact this i hi
theorem symLenX (i : Nat) (w : World) (hi : i < 29) : Calls Try.prog 11 #[.int .i64 (257 + i : Nat)] w fun e w' => e = .returned (.tuple #[.int .i64 (lbx i : Nat), .int .i64 (lex i : Nat), .bool true]) ∧ w = w' := by
  by_cases h : i < 28
  · unfold lbx lex; rw [if_pos h, if_pos h]; exact symLen_any i w h
  · have : i = 28 := by omega
    subst this
    exact symLen_last w
theorem lenSymX (i v n : Nat) (w : World) (hi : i < 29) (hv : v < 2 ^ lex i) (hv2 : i = 27 → v ≤ 30) (hn : n = lbx i + v) :
    Calls Try.prog 12 #[.int .i64 n] w fun e w' => e = .returned (.tuple #[.int .i64 (257 + i : Nat), .int .i64 (lex i : Nat), .int .u32 v]) ∧ w = w' := by
  by_cases h : i < 28
  · have hl : lex i = le4 i := by unfold lex; rw [if_pos h]
    have hb : lbx i = lb i := by unfold lbx; rw [if_pos h]
    rw [hl] at hv ⊢
    rw [hb] at hn
    have ht := lb_top i h
    refine lenSym_any i v n w h hv hn ?_
    by_cases h27 : i < 27
    · have := ht.2.1 h27; omega
    · have : i = 27 := by omega
      have := hv2 this
      subst i
      rw [lb27] at hn; omega
  · have : i = 28 := by omega
    subst this
    have : v = 0 := by have : lex 28 = 0 := rfl; rw [this] at hv; omega
    subst this
    have : n = 258 := hn
    subst this
    exact lenSym_last w

theorem u32_low (x E : Nat) (hx : x < 4294967296) (hE : E ≤ 31) : bits .and .u32 (x : Int) (((2 : Int) ^ E - 1) % 4294967296) = ((x % 2 ^ E : Nat) : Int) := by
  have h1 : (1 : Nat) ≤ 2 ^ E := Nat.one_le_two_pow
  have h2 : 2 ^ E ≤ 2 ^ 31 := Nat.pow_le_pow_right (by decide) hE
  have e : ((2 : Int) ^ E - 1) % 4294967296 = ((2 ^ E - 1 : Nat) : Int) := by
    have e2 : ((2 : Int) ^ E - 1) = ((2 ^ E - 1 : Nat) : Int) := by rw [Int.natCast_sub h1]; push_cast; rfl
    rw [e2]; omega
  rw [e]
  have h3 := u32_and_nat x (2 ^ E - 1) hx (by omega)
  rw [Nat.and_two_pow_sub_one_eq_mod] at h3
  exact h3

set_option maxRecDepth 100000 in
set_option maxHeartbeats 4000000 in
theorem lzSymbols_walk (sym : Int) (x : Nat) (w : World) (hx : x < 4294967296) :
    Calls Try.prog 4 #[.int .i64 sym, .int .u32 x] w fun e w' => e = .returned (.bool true) ∧ Below w.heap.size w w' := by
  obtain ⟨i, hi⟩ : ∃ i : Nat, (i : Int) = sym % 256 % 29 := ⟨(sym % 256 % 29).toNat, by omega⟩
  have hi29 : i < 29 := by omega
  obtain ⟨k, hk⟩ : ∃ k : Nat, (k : Int) = sym % 256 % 30 := ⟨(sym % 256 % 30).toNat, by omega⟩
  have hk30 : k < 30 := by omega
  have hm := mask255 sym
  have HI := Lib.hid hi; have HKk := Lib.hid hk; have HX := Lib.hid hx
  clear hi hk hx
  go_enter Try.func4, Try.ntmps4
  go_upto_region 1 with fail
  go_cut [5] from 30 to 33 (fun s wx => s = .int .i64 (257 + i : Nat) ∧ w = wx)
  case first =>
    go_wp2
    go_meet
    exact ⟨by have := HI.out; congr 1; omega, rfl⟩
  case rest =>
  obtain ⟨rfl, hw⟩ := hcut
  subst hw
  go_wp2_with fail
  refine (symLenX i _ hi29).mono ?_
  rintro e w' ⟨rfl, hw⟩
  subst hw
  obtain ⟨hlb, hle, hlt⟩ := lbx_bd i hi29
  obtain ⟨B, hB⟩ : ∃ B, B = lbx i := ⟨_, rfl⟩
  obtain ⟨E, hE⟩ : ∃ E, E = lex i := ⟨_, rfl⟩
  rw [← hB] at hlb
  rw [← hE] at hle
  have HB := Lib.hid hB; have HE := Lib.hid hE; have HLt := Lib.hid hlt
  rw [← hB, ← hE]
  clear hlt hB hE
  go_upto_region 3 with fail
  go_cut [9] from 40 to 44 (fun s wx => s = .int .u32 (x % 2 ^ E : Nat) ∧ w = wx)
  case first =>
    go_wp2
    go_meet
    exact ⟨by rw [u32_low x E HX.out (by omega)], rfl⟩
  case rest =>
  obtain ⟨rfl, hw⟩ := hcut
  subst hw
  have hve : x % 2 ^ E < 2 ^ E := Nat.mod_lt _ (Nat.pow_pos (by decide))
  have hpe : 2 ^ E ≤ 2 ^ 5 := Nat.pow_le_pow_right (by decide) hle
  obtain ⟨v0, hv0⟩ : ∃ v0, v0 = x % 2 ^ E := ⟨_, rfl⟩
  rw [← hv0] at hve ⊢
  have hv0b : v0 < 32 := by omega
  obtain ⟨v, hv⟩ : ∃ v : Nat, v = if i = 27 ∧ v0 = 31 then 30 else v0 := ⟨_, rfl⟩
  have HV := Lib.hid hv; have HVe := Lib.hid hve
  clear hv0 hve hpe hv
  obtain ⟨q, hq⟩ : ∃ q : Bool, q = decide (i = 27 ∧ v0 = 31) := ⟨_, rfl⟩
  have HQ := Lib.hid hq; clear hq
  go_upto_region 4 with fail
  go_cut [50] from 45 to 50 (fun s wx => s = .bool q ∧ w = wx)
  case first =>
    have hcase : (((257 : Int) + i == 284) = true ∧ ((v0 : Int) == 31) = true ∧ q = true) ∨ (((257 : Int) + i == 284) = true ∧ ((v0 : Int) == 31) = false ∧ q = false) ∨ (((257 : Int) + i == 284) = false ∧ q = false) := by
      rw [HQ.out]
      by_cases h1 : i = 27
      · by_cases h2 : v0 = 31
        · exact .inl ⟨by simp; omega, by simp; omega, by simp [h1, h2]⟩
        · exact .inr (.inl ⟨by simp; omega, by simp; omega, by simp [h2]⟩)
      · exact .inr (.inr ⟨by simp; omega, by simp [h1]⟩)
    rcases hcase with ⟨g1, g2, rfl⟩ | ⟨g1, g2, rfl⟩ | ⟨g1, rfl⟩
    all_goals
      go_wp2
      go_meet
      exact ⟨rfl, rfl⟩
  case rest =>
  obtain ⟨rfl, hw⟩ := hcut
  subst hw
  go_upto_if 50 with fail
  go_cut [9] from 51 to 51 (fun s wx => s = .int .u32 v ∧ w = wx)
  case first =>
    have hv := HV.out
    have hq := HQ.out
    cases q with
    | true =>
      have h := of_decide_eq_true hq.symm
      rw [if_pos h] at hv
      go_wp2
      go_meet
      exact ⟨by rw [hv]; rfl, rfl⟩
    | false =>
      have h := of_decide_eq_false hq.symm
      rw [if_neg h] at hv
      go_wp2
      go_meet
      exact ⟨by rw [hv], rfl⟩
  case rest =>
  obtain ⟨rfl, hw⟩ := hcut
  subst hw
  have hv30 : i = 27 → v ≤ 30 := by
    intro h
    have hv := HV.out
    by_cases h2 : v0 = 31
    · rw [if_pos ⟨h, h2⟩] at hv; omega
    · rw [if_neg (fun h => h2 h.2)] at hv; omega
  have hvE : v < 2 ^ E := by
    have hv := HV.out
    have hve := HVe.out
    by_cases h : i = 27 ∧ v0 = 31
    · rw [if_pos h] at hv; omega
    · rw [if_neg h] at hv; omega
  have hvb : v < 32 := by
    have hpe : 2 ^ E ≤ 2 ^ 5 := Nat.pow_le_pow_right (by decide) hle
    omega
  obtain ⟨n, hn⟩ : ∃ n, n = B + v := ⟨_, rfl⟩
  have hni : (B : Int) + v = n := by omega
  have hnw : IntKind.i64.wrap (n : Int) = n := IntWalk.i64_in _ (by omega)
  have hvw : IntKind.i64.wrap (v : Int) = v := IntWalk.i64_in _ (by omega)
  have HLs : Hid (∀ w, Calls Try.prog 12 #[.int .i64 n] w fun e w' => e = .returned (.tuple #[.int .i64 (257 + i : Nat), .int .i64 E, .int .u32 v]) ∧ w = w') := fun w => by
    rw [HE.out]
    exact lenSymX i v n w hi29 (by rw [← HE.out]; exact hvE) hv30 (by rw [← HB.out]; exact hn)
  clear hn hv30 hvE HQ HV HVe
  go_wp2_with fail
  refine (HLs.out _).mono ?_
  rintro e w' ⟨rfl, hw⟩
  subst hw
  clear HLs hni hnw hvw
  go_upto_region 7 with fail
  go_cut [13] from 60 to 62 (fun s wx => s = .int .i64 k ∧ w = wx)
  case first =>
    go_wp2
    go_meet
    exact ⟨by have := HKk.out; congr 1; omega, rfl⟩
  case rest =>
  obtain ⟨rfl, hw⟩ := hcut
  subst hw
  have hdt := db_top k hk30
  have hds := fun w => symDist_any k w hk30
  obtain ⟨P, hP⟩ : ∃ P, P = db k := ⟨_, rfl⟩
  obtain ⟨F, hF⟩ : ∃ F, F = de k := ⟨_, rfl⟩
  have HP := Lib.hid hP; have HF := Lib.hid hF
  rw [← hP, ← hF] at hdt hds
  have HDs := Lib.hid hds
  have hpb : P ≤ 32768 := by have := Nat.one_le_two_pow (n := F); omega
  have hF13 : F ≤ 13 := hdt.2.2
  clear hds hP hF
  go_wp2_with fail
  refine (HDs.out _).mono ?_
  rintro e w' ⟨rfl, hw⟩
  subst hw
  clear HDs
  go_upto_region 9 with fail
  go_cut [17] from 69 to 73 (fun s wx => s = .int .u32 (x % 2 ^ F : Nat) ∧ w = wx)
  case first =>
    go_wp2
    go_meet
    exact ⟨by rw [u32_low x F HX.out (by omega)], rfl⟩
  case rest =>
  obtain ⟨rfl, hw⟩ := hcut
  subst hw
  have hve : x % 2 ^ F < 2 ^ F := Nat.mod_lt _ (Nat.pow_pos (by decide))
  obtain ⟨u, hu⟩ : ∃ u, u = x % 2 ^ F := ⟨_, rfl⟩
  rw [← hu] at hve ⊢
  have hub : P + u ≤ 32768 := by omega
  obtain ⟨n2, hn2⟩ : ∃ n2, n2 = P + u := ⟨_, rfl⟩
  have hni : (P : Int) + u = n2 := by omega
  have hnw : IntKind.i64.wrap (n2 : Int) = n2 := IntWalk.i64_in _ (by omega)
  have hvw : IntKind.i64.wrap (u : Int) = u := IntWalk.i64_in _ (by omega)
  have HDy : Hid (∀ w, Calls Try.prog 14 #[.int .i64 n2] w fun e w' => e = .returned (.tuple #[.int .i64 k, .int .i64 F, .int .u32 u]) ∧ w = w') := fun w => by
    rw [HF.out]
    exact distSym_any k u n2 w hk30 (by rw [← HF.out]; exact hve) (by rw [← HP.out]; exact hn2)
  clear hve hu hn2 hdt
  go_wp2_with fail
  refine (HDy.out _).mono ?_
  rintro e w' ⟨rfl, hw⟩
  subst hw
  clear HDy hni hnw hvw
  have hc257 : ((257 + i : Nat) : Int) = 257 + (i : Int) := by push_cast; rfl
  by_cases h28 : i < 28
  · have hs285 : ((257 : Int) + i) < 285 := by omega
    have hsn : (257 : Int) + i + 1 = ((257 + (i + 1) : Nat) : Int) := by omega
    have hlt := HLt.out h28
    have hsl := fun w => symLenX (i + 1) w (by omega)
    obtain ⟨B2, hB2⟩ : ∃ B2, B2 = lbx (i + 1) := ⟨_, rfl⟩
    rw [← hB2] at hsl hlt
    rw [← HB.out] at hlt
    rw [← hsn] at hsl
    have hnle : ¬ ((B2 : Int) ≤ (B : Int)) := by omega
    have HSl := Lib.hid hsl
    clear hsl hB2 hsn hlt
    go_wp2_with fail
    refine (HSl.out _).mono ?_
    rintro e w' ⟨rfl, hw⟩
    subst hw
    go_wp2_with fail
    refine (symLen_no _).mono ?_
    rintro e w' ⟨rfl, hw⟩
    subst hw
    go_wp2_with fail
    refine (symDist_no _).mono ?_
    rintro e w' ⟨rfl, hw⟩
    subst hw
    go_wp2_with fail
    refine (awake6 _).mono ?_
    rintro e w2 ⟨rfl, hb2⟩
    go_wp2
    go_ret
    exact ⟨rfl, hb2⟩
  · have hs285 : ¬ ((257 : Int) + i) < 285 := by omega
    go_wp2_with fail
    refine (symLen_no _).mono ?_
    rintro e w' ⟨rfl, hw⟩
    subst hw
    go_wp2_with fail
    refine (symDist_no _).mono ?_
    rintro e w' ⟨rfl, hw⟩
    subst hw
    go_wp2_with fail
    refine (awake6 _).mono ?_
    rintro e w2 ⟨rfl, hb2⟩
    go_wp2
    go_ret
    exact ⟨rfl, hb2⟩

theorem lzSymbols_law (v0 v1 : Value) (w : World) (r0 : Arg w 3 v0) (r1 : Arg w 34 v1) : Calls Try.prog 4 #[v0, v1] w fun e w' => e = .returned (.bool true) ∧ Below w.heap.size w w' := by
  obtain ⟨z, rfl, hz⟩ := r0.int Try.underlying3
  obtain ⟨n, rfl, hn⟩ := r1.int Try.underlying34
  have hu := u32_bd hn
  obtain ⟨c, rfl⟩ := Int.eq_ofNat_of_zero_le hu.1
  exact lzSymbols_walk z c w (by omega)
end Go.Proofs.Ytkhkcmekjjihkaa
