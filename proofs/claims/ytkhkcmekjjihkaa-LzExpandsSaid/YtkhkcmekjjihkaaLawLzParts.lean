/-
  LzParts: tokens that are expanded at once, or one by one, tell the same.
-/
import Derived.Test.YtkhkcmekjjihkaaTameB
namespace Go.Proofs.Ytkhkcmekjjihkaa
open Go.RowKit
set_option linter.unusedVariables false
set_option linter.unusedSimpArgs false

theorem Toks.take {w : World} {ao : Option Addr} {ts : List Tk} (h : Toks w ao ts) (k : Nat) : Toks w ao (ts.take k) := by
  intro i hi
  rw [List.length_take] at hi
  obtain ⟨b, off, h1, h2, h3, h4⟩ := h i (by omega)
  have e : (ts.take k).getD i ⟨0, 0, 0⟩ = ts.getD i ⟨0, 0, 0⟩ := by simp [List.getD, show i < k from by omega]
  rw [e]
  exact ⟨b, off, h1, h2, h3, h4⟩

theorem conv_take {w : World} {ao : Option Addr} {cap k : Nat} {xs : List Int} (h : Reads w ao xs) (h0 : ao = none → cap = 0) (hk : k ≤ xs.length) :
    (convert 24 9 (.slice ao k cap)).run Try.prog w = .ok (.string (strOfNums (xs.take k))) w := by
  cases ao with
  | none =>
    have : xs = [] := h.1 rfl
    subst this
    have : k = 0 := by simpa using hk
    subst this
    exact conv_reads (xs := []) h rfl h0
  | some a => exact conv_reads (reads_take k h) (by rw [List.length_take]; omega) h0

set_option maxRecDepth 100000 in
set_option maxHeartbeats 4000000 in
theorem lzParts_walk (ao : Option Addr) (cap len : Nat) (ts0 : List Tk) (at_ : Int) (w : World) (hlen : ts0.length = len) (hr : Toks w ao ts0) (ha : AllT ts0) (hm : len ≤ maxLen) :
    Calls Try.prog 3 #[.slice ao len cap, .int .i64 at_] w fun e w' => e = .returned (.bool true) ∧ Below w.heap.size w w' := by
  have HTame := Lib.hid (tame_any ao cap len ts0 40 w hlen hr ha hm (by decide))
  clear hlen hr ha
  go_enter Try.func3, Try.ntmps3
  go_wp2_with fail
  refine HTame.out.mono ?_
  rintro e w1 ⟨a1, c1, ts, n, rfl, HTk, HTs, hl40, hlc, hcm, hn0, HK1⟩
  obtain ⟨N, hN⟩ : ∃ N, N = ts.length := ⟨_, rfl⟩
  have hcm' : c1 ≤ 9223372036854775807 := by unfold maxLen at hcm; omega
  rw [← hN] at hl40 hlc ⊢
  have HN := Lib.hid hN
  obtain ⟨k, hk⟩ : ∃ k : Nat, (k : Int) = at_ % 256 % ((N : Int) + 1) := ⟨(at_ % 256 % ((N : Int) + 1)).toNat, Int.toNat_of_nonneg (Int.emod_nonneg _ (by omega))⟩
  have hkN : k ≤ N := by have := Int.emod_lt_of_pos (at_ % 256) (show (0 : Int) < (N : Int) + 1 by omega); omega
  have hma := mask255 at_
  have HKe := Lib.hid hk
  clear hk hN
  have hN1 : (((N : Int) + 1) == 0) = false := by simp; omega
  go_upto_region 2 with fail
  go_cut [6] from 18 to 23 (fun s wx => s = .int .i64 k ∧ w1 = wx)
  case first =>
    go_wp2
    go_meet
    exact ⟨by rw [HKe.out], rfl⟩
  case rest =>
  obtain ⟨rfl, hw⟩ := hcut
  subst hw
  obtain ⟨hta, htg, htn, htl, _⟩ := HTs.out
  have hex := fun w h => expand_any a1 c1 N ts 1048576 w HN.out.symm h hta (by omega) (by decide)
  rw [good_exp 1048576 ts [] 0 htg] at hex
  have hexk := fun w h => expand_any a1 c1 k (ts.take k) 1048576 w (by rw [List.length_take, ← HN.out]; omega) h (fun t ht => hta t (List.mem_of_mem_take ht)) (by omega) (by decide)
  rw [good_exp 1048576 (ts.take k) [] 0 (good_take _ _ _ _ htg)] at hexk
  have hlk : 0 + (ts.take k).length = k := by rw [List.length_take, ← HN.out]; omega
  have hln : 0 + ts.length = N := by rw [← HN.out]; omega
  simp only [hlk, hln] at hex hexk
  have HEx := Lib.hid hex; have HExk := Lib.hid hexk
  have hpre := putAll_take_pre ts k []
  obtain ⟨A, hA⟩ : ∃ A, A = putAll ts [] := ⟨_, rfl⟩
  obtain ⟨B, hB⟩ : ∃ B, B = putAll (ts.take k) [] := ⟨_, rfl⟩
  rw [← hA] at htn HEx hpre
  rw [← hB] at HExk hpre
  have hbl := hpre.length_le
  have hbt : A.take B.length = B := List.prefix_iff_eq_take.1 hpre |>.symm
  have HAe := Lib.hid hA; have HBe := Lib.hid hB; have HBt := Lib.hid hbt
  have hAb : A.length ≤ 3000 := by omega
  clear hex hexk hlk hln hpre hA hB hbt hN1 hma htn htl
  have HTa := Lib.hid hta; have HTg := Lib.hid htg
  clear hta htg
  obtain ⟨LA, hLA⟩ : ∃ LA, LA = A.length := ⟨_, rfl⟩
  obtain ⟨LB, hLB⟩ : ∃ LB, LB = B.length := ⟨_, rfl⟩
  rw [← hLA] at hAb hbl HEx
  rw [← hLB] at hbl HExk HBt
  have HLA := Lib.hid hLA; have HLB := Lib.hid hLB
  clear hLA hLB
  go_wp2_with fail
  refine (HEx.out _ (HTk.out)).mono ?_
  rintro e w2 ⟨a2, c2, rfl, HM2⟩
  have HTk2 := Lib.hid (HTk.out.keptNo HM2.out.2.2)
  have HK2 := Lib.hid (HK1.out.trans HM2.out.2.2)
  have hki : (k : Int) ≤ c1 := by omega
  have hk0 : (0 : Int) ≤ k := by omega
  have hcap2 : LA ≤ c2 ∧ c2 ≤ 9223372036854775807 := by have := own_cap HM2.out.1; rw [HLA.out]; unfold maxLen at this; exact this
  go_wp2_with fail
  refine (HExk.out _ (HTk2.out.take k)).mono ?_
  rintro e w3 ⟨a3, c3, rfl, HM3⟩
  have HTk3 := Lib.hid (HTk2.out.keptNo HM3.out.2.2)
  have HK3 := Lib.hid (HK2.out.trans HM3.out.2.2)
  have HA3 := Lib.hid (HM2.out.reads.keptNo HM3.out.2.2)
  have HA0 := Lib.hid (own_nil HM2.out.1)
  have HB3 := Lib.hid HM3.out.reads
  have HB0 := Lib.hid (own_nil HM3.out.1)
  have hv1 : ∀ W, Kept NoB w3 W → (convert 24 9 (.slice a2 LB c2)).run Try.prog W = .ok (.string (strOfNums B)) W := fun W hk => by
    have := conv_take (k := LB) (HA3.out.keptNo hk) HA0.out (by rw [← HLA.out]; exact hbl)
    rwa [HBt.out] at this
  have hv2 : ∀ W, Kept NoB w3 W → (convert 24 9 (.slice a3 LB c3)).run Try.prog W = .ok (.string (strOfNums B)) W := fun W hk => by
    have := conv_reads (n := LB) (HB3.out.keptNo hk) HLB.out HB0.out
    exact this
  generalize strOfNums B = sB at hv1 hv2
  have hl0 : (0 : Int) ≤ LB := by omega
  have hl1 : (LB : Int) ≤ c2 := by omega
  have hl2 : ¬ (LA : Int) < LB := by omega
  have hl3 : ¬ LA < LB := by omega
  have hl4 : decide (LA < LB) = false := decide_eq_false hl3
  have hl5 : decide ((LA : Int) < (LB : Int)) = false := decide_eq_false hl2
  go_wp2_with fail
  go_region_held3 (fun W => Kept NoB w3 W) (first | assumption | exact Kept.drew (Kept.refl _ _) | exact Kept.drew (by assumption)) (fail)
  clear hv1 hv2
  have hkd : Kept NoB w3 w3.drew := (Kept.refl _ _).drew
  generalize w3.drew = wd at hkd ⊢
  have HKd := Lib.hid hkd
  clear hkd
  have e1 : ∀ (l : Nat) (a : Option Addr) (c : Nat), Value.slice a l c = Value.slice a l c := fun _ _ _ => rfl
  go_wp2
  go_loopw [10, 13] (fun a i wr => ∃ (j : Nat) (aj : Option Addr) (cj lj : Nat), k ≤ j ∧ j ≤ N ∧ i = .int .i64 j ∧ a = .slice aj lj cj ∧ Hid (lj = (putAll (ts.take j) []).length) ∧ Hid (Reads wr aj (putAll (ts.take j) [])) ∧ Hid (aj = none → cj = 0) ∧ Hid (Kept NoB w3 wr)) (fun _ i _ => N - (intOf i).toNat)
  case atStart => exact ⟨k, a3, c3, LB, by omega, hkN, rfl, rfl, by rw [← HBe.out]; exact HLB.out, by rw [← HBe.out]; exact HB3.out.keptNo HKd.out, HB0.out, HKd.out⟩
  case round =>
    obtain ⟨j, aj, cj, lj, hj1, hj2, rfl, rfl, HLj, HRj, HCj, HKj⟩ := hrel
    by_cases hlt : (j : Int) < N
    · have hjt : j < ts.length := by rw [← HN.out]; omega
      obtain ⟨b, off, rfl, d0, d1, d2⟩ := (HTk3.out.keptNo HKj.out) j hjt
      have hno := good_at 1048576 ts [] HTg.out j hjt
      have hsucc := putAll_succ ts [] j hjt
      have hwf := AllT.getD HTa.out j
      have hlen := HLj.out
      have hjle : (putAll (ts.take j) []).length ≤ 3000 := by
        have h1 := (putAll_take_pre ts j []).length_le
        rw [← HAe.out, ← HLA.out] at h1
        omega
      generalize ts.getD j ⟨0, 0, 0⟩ = t at d0 d1 d2 hno hsucc hwf
      obtain ⟨bs, hbs⟩ : ∃ bs, bs = putAll (ts.take j) [] := ⟨_, rfl⟩
      rw [← hbs] at hno hsucc HRj HLj hjle
      have HP := Lib.hid (lput_yes t aj cj bs 1048576 wr HRj.out (by omega) hwf (by decide) hno)
      rw [← HLj.out, ← hsucc] at HP
      clear hno hwf hsucc hjt hlen hjle hbs
      obtain ⟨l, d, c⟩ := t
      unfold Tk.v at HP
      simp only [] at HP
      simp only at d0 d1 d2
      obtain ⟨lj2, hlj2⟩ : ∃ lj2, lj2 = (putAll (ts.take (j + 1)) []).length := ⟨_, rfl⟩
      rw [← hlj2] at HP
      have HLj2 := Lib.hid hlj2
      clear hlj2
      go_wp2_with fail
      refine HP.out.mono ?_
      rintro e w4 ⟨a4, c4, rfl, HM4⟩
      have HKn := Lib.hid (HKj.out.trans HM4.out.2.2)
      clear d0 d1 d2
      go_wp2
      go_roundw
      case rel => exact ⟨j + 1, a4, c4, lj2, by omega, by omega, by go_num, rfl, HLj2, HM4.out.reads, own_nil HM4.out.1, HKn⟩
      case measure => simp [intOf]; omega
    · have hjN : j = N := by omega
      have htk : ts.take j = ts := List.take_of_length_le (by rw [← HN.out]; omega)
      rw [htk, ← HAe.out] at HRj HLj
      have hv1 := conv_reads (n := lj) HRj.out HLj.out HCj.out
      have hv2 := conv_reads (n := LA) (HA3.out.keptNo HKj.out) HLA.out HA0.out
      have HKf := Lib.hid (HK3.out.trans HKj.out)
      generalize strOfNums A = sA at hv1 hv2
      clear htk
      go_wp2_with fail
      refine (awake6 _).mono ?_
      rintro e w5 ⟨rfl, hb5⟩
      have hfin := (HKf.out.ofBelow hb5).belowNo (Below.refl _ _)
      clear hv1 hv2
      go_wp2
      go_ret
      exact ⟨rfl, hfin⟩

theorem lzParts_law (v0 v1 : Value) (w : World) (r0 : Arg w 22 v0) (r1 : Arg w 3 v1) : Calls Try.prog 3 #[v0, v1] w fun e w' => e = .returned (.bool true) ∧ Below w.heap.size w w' := by
  obtain ⟨ao, cap, ts, rfl, hr, ha, hlc, hm, _⟩ := toks_open r0
  obtain ⟨a, rfl, _⟩ := r1.int Try.underlying3
  exact lzParts_walk ao cap _ ts a w rfl hr ha (by omega)
end Go.Proofs.Ytkhkcmekjjihkaa
